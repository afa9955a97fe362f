/-
  CallAnswers, walked.
  The document's Join.
  WALK of the document's Inside.
  Closed facts of this seat that every law's row asks: three tables, a world in which they hold what their texts say; bytes that came in.
  A row of calls that came in.
-/
import Derived.Test.YtlkiaghpdjbfeaaDoorPk4
import Derived.Test.YtlkiaghpdjbfeaaDoorPk2
import Derived.Deep.CutRange
import Derived.Test.YtlkiaghpdjbfeaaDoorPk3
import Derived.Deep.LoopGhost
import Derived.Handy
import Derived.Test.YtlkiaghpdjbfeaaDoorCards
import Derived.Test.YtlkiaghpdjbfeaaDoorTie
import Derived.Deep.DeepHandedRow
import Derived.Shelf.Vars
import Derived.Lib.LaidTab
import Derived.Stop.LaidErr
namespace Go.Proofs.YtlkiaghpdjbfeaaDoor
open Go.RowKit

/-- What is asked of the reference's do. -/
def DoesRef : Prop := ∀ (w : World) (g : Nat) (t : Tr) (c : TCall) (Ad : Option Addr) (kd cd : Nat), kd = c.data.length → kd ≤ 1000000 → Rd w w.heap.size Ad c.data → RefAt (fun _ => True) w g t → Good t → Small t → c.path.length ≤ 1000 → c.other.length ≤ 1000 →
  Calls Tryd.prog 7 #[.pointer (some ⟨g, 0, none⟩), .agg #[.int .i64 c.kind, .string (ba c.path), .string (ba c.other), .int .i64 c.off, .int .i64 c.n, .slice Ad kd cd]] w (RDone (fun _ => True) g (doT t c) w)
/-- The reference's tree behind so many calls. -/
structure AnsSt (w wr : World) (g : Nat) (t : Tr) (k : Nat) : Prop where
  kf : KF w wr
  new : w.heap.size ≤ g
  ref : RefAt (fun _ => True) wr g t
  good : Good t
  ents : EN t k
theorem AnsSt.far {w wr w' : World} {g : Nat} {t : Tr} {k : Nat} (h : AnsSt w wr g t k) (kf : KF wr w') : AnsSt w w' g t k := ⟨KF.trans h.kf kf, h.new, h.ref.kept kf, h.good, h.ents⟩
theorem encA_le {y : IAns} (h : AnsSm y) : (encA y).length ≤ 40000 := by
  have h1 := lst_length y.names 300 h.each
  have h2 : (4 + 300) * y.names.length ≤ (4 + 300) * 64 := Nat.mul_le_mul_left _ h.names
  have h3 := h.data
  unfold encA
  simp only [List.length_append, tx_length, be_length]
  omega
/-- What Do leaves, with its answer as the bytes' one. -/
theorem AnsSt.do_ (hD : DoesRef) {w wr : World} {g : Nat} {t : Tr} {k : Nat} (h : AnsSt w wr g t k) (hk : k < 60) (x : TCall) (A1 : Option Addr) (c1 : Nat) (hx : x.path.length ≤ 400 ∧ x.other.length ≤ 400 ∧ x.data.length ≤ 5000) (hr : Rd wr wr.heap.size A1 x.data) :
    Calls Tryd.prog 7 #[.pointer (some ⟨g, 0, none⟩), .agg #[.int .i64 x.kind, .string (ba x.path), .string (ba x.other), .int .i64 x.off, .int .i64 x.n, .slice A1 x.data.length c1]] wr
      fun e w' => ∃ A2 c2 B2 d2, e = .returned (.agg #[.int .i64 (toI (doT t x).1).err, .int .i64 (toI (doT t x).1).kind, .int .i64 (toI (doT t x).1).size, .int .i64 (toI (doT t x).1).links, .slice A2 (toI (doT t x).1).data.length c2, .slice B2 (toI (doT t x).1).names.length d2]) ∧
        Hid (Rd w' w'.heap.size A2 (toI (doT t x).1).data ∧ Strs w' w'.heap.size B2 ((toI (doT t x).1).names.map ba) ∧ AnsSt w w' g (doT t x).2 (k + 1)) ∧ Keep (fun i => i = g) wr w' := by
  refine (hD wr g t x A1 x.data.length c1 rfl (by omega) hr h.ref h.good (fun n => by have := h.ents n; omega) (by omega) (by omega)).mono ?_
  rintro e w' ⟨A2, c2, B2, d2, rfl, h1, h2, h3, h4, _, _⟩
  exact ⟨A2, c2, B2, d2, rfl, Lib.hid ⟨h1, h2, Keep.trans h.kf h3 (fun i hi (e : i = g) => by have := h.new; omega), h.new, h4, doT_good h.good x, doT_ents h.ents x⟩, h3⟩
set_option maxRecDepth 100000 in
set_option maxHeartbeats 4000000 in
theorem answers_walk (hD : DoesRef) (A : Option Addr) (cs : List TCall) (n c : Nat) (w : World) (ht : Tab w) (he : Env w) (hn : n = cs.length) (hr : CallsAt w w.heap.size A cs) :
    Calls Tryd.prog 3 #[.slice A n c] w fun e w' => e = .returned (.bool true) ∧ KF w w' := by
  have HS := Lib.hid (speaks5 w ht he)
  have HN := Lib.hid hn
  have HR := Lib.hid hr
  have HT := Lib.hid ht
  clear hn hr
  go_enter Tryd.func3, Tryd.ntmps3
  go_wp2_with fail
  refine HS.out.mono ?_
  rintro e w1 ⟨rfl, k1⟩
  clear HS
  by_cases h60 : n ≤ 60
  · have hle : ¬ ((n : Int) > 60) := by omega
    have HNEW := Lib.hid (rnew_any (Zp := fun _ => True) w1 (fun _ _ => trivial))
    go_wp2_with fail
    refine HNEW.out.mono ?_
    rintro e w2 ⟨g, rfl, hg, k2, R2⟩
    have HST : Hid (AnsSt w w2 g newT 0) := Lib.hid ⟨KF.trans k1 k2, Nat.le_trans k1.size hg, R2, good_new, EN.new⟩
    clear HNEW R2 hg k1 k2
    go_wp2_with fail
    go_loopg [17] n (fun gh i wr => ∃ (k : Nat), k ≤ n ∧ n - k ≤ gh ∧ i = .int .i64 k ∧ Hid (AnsSt w wr g (doAll newT (cs.take k)) k))
    case atStart => exact ⟨0, by omega, by omega, rfl, HST⟩
    case round =>
      obtain ⟨k, hk, hgk, rfl, S⟩ := hrel
      rcases Nat.lt_or_ge k n with hlt | hge
      · have hlt' : (k : Int) < (n : Int) := by omega
        have q1 : k < cs.length := by rw [← HN.out]; exact hlt
        have hat : cs[k]? = some cs[k] := List.getElem?_eq_getElem q1
        obtain ⟨b, o, A1, c1, rfl, hb, hc, hrd⟩ := (HR.out.keep S.out.kf (Nat.le_refl _)) k _ hat
        have HTK := Lib.hid (show doAll newT (cs.take (k + 1)) = (doT (doAll newT (cs.take k)) cs[k]).2 by
          unfold doAll
          rw [List.take_succ_eq_append_getElem q1, List.foldl_append]
          rfl)
        generalize cs[k] = x at *
        generalize doAll newT (cs.take k) = t at *
        have c0 : wr.cell? ⟨b, o + k * 6, none⟩ = some (.int .i64 x.kind) := hc 0 _ rfl
        have c1' : wr.cell? ⟨b, o + k * 6 + 1, none⟩ = some (.string (ba x.path)) := hc 1 _ rfl
        have c2 : wr.cell? ⟨b, o + k * 6 + 2, none⟩ = some (.string (ba x.other)) := hc 2 _ rfl
        have c3 : wr.cell? ⟨b, o + k * 6 + 3, none⟩ = some (.int .i64 x.off) := hc 3 _ rfl
        have c4 : wr.cell? ⟨b, o + k * 6 + 4, none⟩ = some (.int .i64 x.n) := hc 4 _ rfl
        have c5 : wr.cell? ⟨b, o + k * 6 + 5, none⟩ = some (.slice A1 x.data.length c1) := hc 5 _ rfl
        obtain ⟨W, hW⟩ : ∃ W, wr.alloc (.cells #[.int .i64 x.kind, .string (ba x.path), .string (ba x.other), .int .i64 x.off, .int .i64 x.n, .slice A1 x.data.length c1] 28) = W := ⟨_, rfl⟩
        obtain ⟨cb, hcb⟩ : ∃ cb, wr.heap.size = cb := ⟨_, rfl⟩
        have kW : KF wr W := by rw [← hW]; exact (KF.refl wr).alloc _
        have hbW : W.heap[cb]? = some (.cells #[.int .i64 x.kind, .string (ba x.path), .string (ba x.other), .int .i64 x.off, .int .i64 x.n, .slice A1 x.data.length c1] 28) := by rw [← hW, ← hcb]; exact heap_alloc_new wr _
        have SW := S.out.far kW
        have HCX := Lib.hid (fun Y (ky : KF W Y) => six_cells ((ky.block cb (lt_of_block hbW) (fun h => h)).trans hbW))
        have HG := Lib.hid (great5 x A1 none none none x.data.length c1 0 0 0 0 0 0 0 0 0 0 [] W rfl Strs.nil)
        have hrW : Rd W W.heap.size A1 x.data := (hrd.keepF kW S.out.kf.size).more (KF.trans S.out.kf kW).size
        have hcbg : cb ≠ g := fun e => by have := S.out.ref.lt; omega
        have hcbl := lt_of_block hbW
        have HW := Lib.hid hW
        have HCB := Lib.hid hcb
        clear hW hcb hat hc S HR HST hbW hrd hb
        go_upto_region 9 with fail
        rw [HW.out, HCB.out]
        clear HW HCB c0 c1' c2 c3 c4 c5 kW
        obtain ⟨d0, d1, d2, d3, d4, d5⟩ := HCX.out _ (KF.refl _)
        go_wp2_with fail
        refine HG.out.mono ?_
        rintro e w3 ⟨v, rfl, k3, hv⟩
        clear HG
        rcases v with _ | _
        · have HX5 := (hv rfl).out
          have S3 := SW.far k3
          have HDO := Lib.hid (S3.do_ hD (by omega) x A1 c1 ⟨HX5.path, HX5.other, HX5.data⟩ ((hrW.keepF k3 (Nat.le_refl _)).more k3.size))
          have SM := Lib.hid (doT_sm S3.good S3.ents (by omega) x)
          clear hv SW S3 hrW HX5
          clear d0 d1 d2 d3 d4 d5
          obtain ⟨d0, d1, d2, d3, d4, d5⟩ := HCX.out _ k3
          clear HCX
          obtain ⟨y, hy⟩ : ∃ y, toI (doT t x).1 = y := ⟨_, rfl⟩
          rw [hy] at HDO SM
          clear hy
          go_wp2_with fail
          refine HDO.out.mono ?_
          rintro e w4 ⟨A2, c2, B2, d2', rfl, h4, k4⟩
          clear HDO d0 d1 d2 d3 d4 d5 k3
          obtain ⟨W5, hW5⟩ : ∃ W5, w4.alloc (.cells #[.int .i64 y.err, .int .i64 y.kind, .int .i64 y.size, .int .i64 y.links, .slice A2 y.data.length c2, .slice B2 y.names.length d2'] 33) = W5 := ⟨_, rfl⟩
          obtain ⟨yb, hyb⟩ : ∃ yb, w4.heap.size = yb := ⟨_, rfl⟩
          have kW5 : KF w4 W5 := by rw [← hW5]; exact (KF.refl w4).alloc _
          have hb5 : W5.heap[yb]? = some (.cells #[.int .i64 y.err, .int .i64 y.kind, .int .i64 y.size, .int .i64 y.links, .slice A2 y.data.length c2, .slice B2 y.names.length d2'] 33) := by rw [← hW5, ← hyb]; exact heap_alloc_new w4 _
          have HCY := Lib.hid (fun Y (ky : KF W5 Y) => six_cells ((ky.block yb (lt_of_block hb5) (fun h => h)).trans hb5))
          obtain ⟨r1, r2, r3⟩ := h4.out
          have S5 := r3.far kW5
          have q2 := (r1.keepF kW5 (Nat.le_refl _)).more kW5.size
          have q3 := r2.kept kW5
          have HE := Lib.hid (encodeA_any y A2 B2 c2 d2' W5 (HT.out.kept S5.kf (fun h => h)) (by have := SM.out.data; omega) (by have := SM.out.names; omega) (fun p hp => by have := SM.out.each p hp; omega) q2 q3)
          have HSA := Lib.hid fun Y (ky : KF W5 Y) A3 B3 c3 d3 (h1 : Rd Y Y.heap.size A3 y.data) (h2 : Strs Y Y.heap.size B3 (y.names.map ba)) => sameAnswerI_one y A2 A3 B2 B3 c2 c3 d2' d3 Y (by have := SM.out.data; omega) (by have := SM.out.names; omega) ((q2.keepF ky (Nat.le_refl _)).more ky.size) (q3.kept ky) h1 h2
          have HS5 := Lib.hid S5
          have HDA := Lib.hid (dec_encA SM.out)
          have HLE := Lib.hid (encA_le SM.out)
          have HLB := Lib.hid (wrapB_length (encA y))
          have HW5 := Lib.hid hW5
          have HYB := Lib.hid hyb
          clear hW5 hyb r1 r2 r3 S5 q2 q3 h4 hb5 kW5 SM
          unfold ansV at HSA
          generalize wrapB (encA y) = L at *
          generalize (encA y).length = ly at *
          go_upto_region 12 with fail
          rw [HW5.out, HYB.out]
          clear HW5 HYB k4
          obtain ⟨d0, d1, d2, d3, d4, d5⟩ := HCY.out _ (KF.refl _)
          go_wp2_with fail
          refine HE.out.mono ?_
          rintro e w6 ⟨A6, c6, rfl, o6, _, k6⟩
          have hsh := o6.shape
          have CD : Hid (Calls Tryd.prog 8 #[.slice A6 (ly + 4) c6] w6 (DecsA L w6)) := by
            obtain ⟨A', c', e, h1, h2, h3, _⟩ := hsh
            have hn := o6.len
            injection e with e1 e2 e3
            subst e1 e3
            exact Lib.hid (decodeA_any A6 L (ly + 4) c6 w6 hn (by omega) h2 (by rw [HLB.out]; have := HLE.out; omega) (HT.out.kept (KF.trans HS5.out.kf k6) (fun h => h)) h3)
          clear hsh HE o6 d0 d1 d2 d3 d4 d5
          go_wp2_with fail
          refine CD.out.mono ?_
          rintro e w7 ⟨k7, ⟨z, A3, c3, B3, d3, hz, rfl, r3, r4, _⟩ | ⟨hz, rfl⟩⟩
          · rw [HDA.out] at hz
            injection hz with hz
            subst hz
            unfold ansV
            obtain ⟨W8, hW8⟩ : ∃ W8, w7.alloc (.cells #[.int .i64 y.err, .int .i64 y.kind, .int .i64 y.size, .int .i64 y.links, .slice A3 y.data.length c3, .slice B3 y.names.length d3] 33) = W8 := ⟨_, rfl⟩
            obtain ⟨zb, hzb⟩ : ∃ zb, w7.heap.size = zb := ⟨_, rfl⟩
            have kW8 : KF w7 W8 := by rw [← hW8]; exact (KF.refl w7).alloc _
            have hb8 : W8.heap[zb]? = some (.cells #[.int .i64 y.err, .int .i64 y.kind, .int .i64 y.size, .int .i64 y.links, .slice A3 y.data.length c3, .slice B3 y.names.length d3] 33) := by rw [← hW8, ← hzb]; exact heap_alloc_new w7 _
            have k58 := KF.trans k6 (KF.trans k7 kW8)
            have CSA := Lib.hid (HSA.out W8 k58 A3 B3 c3 d3 ((r3.keepF kW8 (Nat.le_refl _)).more kW8.size) (r4.kept kW8))
            have HS8 := Lib.hid (HS5.out.far k58)
            have HW8 := Lib.hid hW8
            have HZB := Lib.hid hzb
            obtain ⟨d0, d1, d2, d3', d4, d5⟩ := HCY.out _ k58
            obtain ⟨e0, e1, e2, e3, e4, e5⟩ := six_cells hb8
            clear hW8 hzb CD HSA r3 r4 HDA HCY HS5 hb8 kW8 k58 k6 k7
            go_upto_region 13 with fail
            rw [HW8.out, HZB.out]
            clear HW8 HZB
            go_wp2_with fail
            refine CSA.out.mono ?_
            rintro e w9 ⟨rfl, k9⟩
            have HREL : Hid (∃ (k' : Nat), k' ≤ n ∧ n - k' ≤ n - (k + 1) ∧ Value.int .i64 (k + 1) = .int .i64 k' ∧ Hid (AnsSt w w9 g (doAll newT (cs.take k')) k')) := Lib.hid ⟨k + 1, hlt, Nat.le_refl _, by go_num, by rw [HTK.out]; exact Lib.hid (HS8.out.far k9)⟩
            clear CSA HS8 HTK k9 d0 d1 d2 d3' d4 d5 e0 e1 e2 e3 e4 e5
            go_wp2_with fail
            go_roundg (n - (k + 1))
            case measure => omega
            case rel => exact HREL.out
          · rw [HDA.out] at hz
            cases hz
        · have kS := KF.trans SW.kf k3
          clear hv SW HCX hrW d0 d1 d2 d3 d4 d5 HTK k3
          go_wp2_with fail
          go_ret
          exact ⟨rfl, kS⟩
      · obtain rfl : k = n := by omega
        have hlt' : ¬ (k : Int) < (k : Int) := by omega
        have kS := S.out.kf
        clear S HST HR
        go_wp2_with fail
        go_ret
        exact ⟨rfl, kS⟩
  · have hle : ((n : Int) > 60) := by omega
    go_wp2_with fail
    go_ret
    exact ⟨rfl, k1⟩
end Go.Proofs.YtlkiaghpdjbfeaaDoor

namespace Go.Proofs.YtlkiaghpdjbfeaaDoor
open Go.RowKit

/-- How many bytes texts have. -/
abbrev total (ps : List Txt) : Nat := Lib.lens ps
theorem total_cons (p : Txt) (q : List Txt) : total (p :: q) = p.length + total q := by simp [total, Lib.lens]
theorem total_mem {ps : List Txt} {p : Txt} (h : p ∈ ps) : p.length ≤ total ps := by
  induction ps with
  | nil => cases h
  | cons a q ih =>
    rw [total_cons]
    rcases List.mem_cons.1 h with rfl | h
    · omega
    · have := ih h; omega
theorem total_take (ps : List Txt) (k : Nat) : total (ps.take k) ≤ total ps := Lib.lens_take_le ps k
theorem joined_total (ps : List Txt) : (joined ps).length ≤ total ps + ps.length := by
  cases ps with
  | nil => simp [joined, Lib.join, List.intercalate]
  | cons p q =>
    have : (joined (p :: q)).length = 1 * q.length + total (p :: q) := Lib.join_length p q [47]
    rw [List.length_cons]
    omega
/-- Each name with a slash ahead. -/
def led (ps : List Txt) : Txt := ps.flatMap fun p => 47 :: p
theorem led_snoc (ps : List Txt) (p : Txt) : led (ps ++ [p]) = led ps ++ 47 :: p := by simp [led]
theorem led_length (ps : List Txt) : (led ps).length = total ps + ps.length := by
  induction ps with
  | nil => rfl
  | cons p q ih =>
    have e : led (p :: q) = 47 :: p ++ led q := rfl
    rw [e, List.length_append, ih, total_cons, List.length_cons, List.length_cons]
    omega
theorem led_joinM : ∀ {ps : List Txt}, ps ≠ [] → led ps = joinM ps
  | [], h => absurd rfl h
  | [p], _ => by
    rw [joinM_one]
    simp [led]
  | p :: q :: r, _ => by
    have e : led (p :: q :: r) = 47 :: p ++ led (q :: r) := rfl
    rw [e, led_joinM (by simp), joinM, joinM, joined_cons_cons]
    rfl
theorem take_snoc {ps : List Txt} {k : Nat} (h : k < ps.length) : ps.take (k + 1) = ps.take k ++ [ps[k]] := by
  rw [List.take_add_one, List.getElem?_eq_getElem h]
  rfl
theorem joined_snoc (ps : List Txt) (p : Txt) (h : ps ≠ []) : joined (ps ++ [p]) = joined ps ++ 47 :: p := by
  have := above_def ps p h
  rw [joinM, joinM] at this
  injection this

set_option maxRecDepth 100000 in
theorem rjoin_any (A : Option Addr) (ps : List Txt) (n c : Nat) (w : World) (hn : n = ps.length) (hb : total ps ≤ 2000000) (hb2 : n ≤ 1000) (h : Strs w w.heap.size A (ps.map ba)) :
    Calls Tryd.prog 56 #[.slice A n c] w fun e w' => e = .returned (.string (ba (joinM ps))) ∧ KF w w' := by
  have HS := Lib.hid h
  have HN := Lib.hid hn
  clear h hn
  go_enter Tryd.func56, Tryd.ntmps56
  go_wp2_with fail
  go_loopg [3, 4] n (fun g s3 i wr => ∃ k : Nat, k ≤ n ∧ n - k ≤ g ∧ s3 = .string (ba (led (ps.take k))) ∧ i = .int .i64 k ∧ wr = w)
  case atStart => exact ⟨0, by omega, by omega, rfl, rfl, rfl⟩
  case round =>
    obtain ⟨k, hk, hg, rfl, rfl, rfl⟩ := hrel
    rcases Nat.lt_or_ge k n with hlt | hge
    · have hlt' : (k : Int) < (n : Int) := by omega
      have q1 : k < ps.length := by rw [← HN.out]; exact hlt
      obtain ⟨b, o, rfl, hbb, hcell⟩ := World.cellAt HS.out (n := k) (by rw [List.length_map]; exact q1)
      rw [List.getElem_map] at hcell
      have z1 : (ba (led (ps.take k))).size ≤ 3000000 := by
        rw [ba_size, led_length, List.length_take]
        have := total_take ps k
        omega
      have z2 : (ba ps[k]).size ≤ 3000000 := by
        rw [ba_size]
        have := total_mem (List.getElem_mem q1)
        omega
      have hE : ba (led (ps.take k)) ++ (⟨#[47]⟩ ++ ba ps[k]) = ba (led (ps.take (k + 1))) := by
        rw [take_snoc q1, led_snoc]
        apply ba_ext.1
        simp [ByteArray.data_append]
      have HE := Lib.hid hE
      clear hE
      generalize ba ps[k] = x at hcell z2 HE
      generalize ba (led (ps.take k)) = y at z1 HE ⊢
      generalize hY : ba (led (ps.take (k + 1))) = y2 at HE
      have HY := Lib.hid hY
      clear hY
      go_wp2_with fail
      go_roundg (n - (k + 1))
      case measure => omega
      case rel => exact ⟨k + 1, by omega, by omega, by rw [HY.out, ← HE.out], by go_num, rfl⟩
    · obtain rfl : k = n := by omega
      have hlt' : ¬ (k : Int) < (k : Int) := by omega
      have e : ps.take k = ps := by rw [HN.out, List.take_length]
      rw [e]
      by_cases hps : ps = []
      · subst hps
        have e2 : ba (led []) = ⟨#[]⟩ := rfl
        rw [e2]
        go_wp2_with fail
        go_ret
        exact ⟨rfl, KF.refl _⟩
      · have hE : (ba (led ps)).toList.isEmpty = false := by
          rw [Lib.toList_data, led_joinM hps]
          rfl
        have HJ := Lib.hid (show ba (led ps) = ba (joinM ps) by rw [led_joinM hps])
        have hE2 : ¬ (ba (led ps)).toList = [] := fun h => by rw [h] at hE; cases hE
        generalize ba (led ps) = y at hE hE2 HJ ⊢
        go_wp2_with fail
        go_ret
        exact ⟨by rw [← HJ.out]; rfl, KF.refl _⟩
end Go.Proofs.YtlkiaghpdjbfeaaDoor

namespace Go.Proofs.YtlkiaghpdjbfeaaDoor
open Go.RowKit

theorem take_step {xs ys : List Txt} {k : Nat} (h : xs.take k = ys.take k) (q1 : k < xs.length) (q2 : k < ys.length) (he : xs[k] = ys[k]) : xs.take (k + 1) = ys.take (k + 1) := take_texts h q1 q2 he

set_option maxRecDepth 100000 in
theorem rinside_any (s t : ByteArray) (w : World) (hs : s.size ≤ 1000) (ht : t.size ≤ 1000) :
    Calls Tryd.prog 37 #[.string s, .string t] w fun e w' => e = .returned (.bool (insideM s.data.toList t.data.toList)) ∧ KF w w' := by
  have C := Lib.hid (rsplit_any s w hs)
  have D : Hid (∀ w1, Calls Tryd.prog 55 #[.string t] w1 (RSplits t.data.toList w1)) := Lib.hid fun w1 => rsplit_any t w1 ht
  go_enter Tryd.func37, Tryd.ntmps37
  go_wp2_with fail
  refine C.out.mono ?_
  rintro e w1 ⟨k1, ⟨hno, A, n, c, rfl⟩ | ⟨xs, A, c, hp, rfl, hc, hcm, hst⟩⟩
  · have HM := Lib.hid (insideM_none (s := s.data.toList) (o := t.data.toList) (Or.inl hno))
    go_wp2_with fail
    refine (D.out _).mono ?_
    rintro e w2 ⟨k2, ⟨hno', A', n', c', rfl⟩ | ⟨ys, A', c', hp', rfl, hc', hcm', hst'⟩⟩
    all_goals (go_wp2_with fail; go_ret; exact ⟨by rw [HM.out]; rfl, k1.trans k2⟩)
  · go_wp2_with fail
    refine (D.out _).mono ?_
    rintro e w2 ⟨k2, ⟨hno', A', n', c', rfl⟩ | ⟨ys, A', c', hp', rfl, hc', hcm', hst'⟩⟩
    · have HM := Lib.hid (insideM_none (s := s.data.toList) (o := t.data.toList) (Or.inr hno'))
      go_wp2_with fail
      go_ret
      exact ⟨by rw [HM.out]; rfl, k1.trans k2⟩
    · have HM := Lib.hid (insideM_some hp hp')
      have h8 := (pathM_some hp).2.1
      have h8' := (pathM_some hp').2.1
      have HS := Lib.hid (hst.kept k2)
      have HS' := Lib.hid hst'
      clear hp hp' hst hst'
      by_cases hl : ys.length < xs.length
      · have hgt : decide ((xs.length : Int) ≤ (ys.length : Int)) = false := decide_eq_false (by omega)
        generalize hx : xs.length = n at *
        generalize hy : ys.length = m at *
        have HX := Lib.hid hx
        have HY := Lib.hid hy
        clear hx hy
        go_wp2_with fail
        go_loopg [9] m (fun g i wr => ∃ k nq : Nat, k ≤ m ∧ m - k ≤ g ∧ i = .int .i64 k ∧ wr = w2.drewN nq ∧ Hid (xs.take k = ys.take k))
        case atStart => exact ⟨0, 0, by omega, by omega, rfl, rfl, Lib.hid rfl⟩
        case round =>
          obtain ⟨k, nq, hk, hg, rfl, rfl, HT⟩ := hrel
          rcases Nat.lt_or_ge k m with hlt | hge
          · have hlt' : (k : Int) < (m : Int) := by omega
            have hlt2 : (k : Int) < (n : Int) := by omega
            have q1 : k < xs.length := by rw [HX.out]; omega
            have q2 : k < ys.length := by rw [HY.out]; exact hlt
            obtain ⟨b, o, rfl, hbb, hc1⟩ := World.cellAt HS.out (n := k) (by rw [List.length_map]; exact q1)
            obtain ⟨b', o', rfl, hbb', hc2⟩ := World.cellAt HS'.out (n := k) (by rw [List.length_map]; exact q2)
            rw [List.getElem_map] at hc1 hc2
            by_cases he : xs[k] = ys[k]
            · have HE := Lib.hid (take_step HT.out q1 q2 he)
              rw [he] at hc1
              generalize ba ys[k] = x at hc1 hc2
              go_wp2
              go_quiet (fail)
              go_wp2
              go_roundg (m - (k + 1))
              case measure => omega
              case rel => exact ⟨k + 1, _, by omega, by omega, by go_num, rfl, HE.out⟩
            · have hbb : ((ba xs[k]).toList == (ba ys[k]).toList) = false := by
                rw [Lib.toList_data, Lib.toList_data]
                exact beq_eq_false_iff_ne.2 he
              have HD := Lib.hid (show decide (m < n ∧ xs.take m = ys) = false by
                rw [decide_eq_false_iff_not]
                rintro ⟨_, h⟩
                apply he
                have h1 : (xs.take m)[k]? = ys[k]? := by rw [h]
                rw [List.getElem?_take, if_pos hlt, List.getElem?_eq_getElem q1, List.getElem?_eq_getElem q2] at h1
                exact Option.some.inj h1)
              generalize ba xs[k] = x at hc1 hbb
              generalize ba ys[k] = y at hc2 hbb
              go_wp2
              go_quiet (fail)
              go_wp2
              go_ret
              exact ⟨by rw [HM.out, HD.out]; rfl, ((k1.trans k2).drewN _).drewN _⟩
          · obtain rfl : k = m := by omega
            have HD := Lib.hid (show decide (k < n ∧ xs.take k = ys) = true by
              have h := HT.out
              rw [List.take_of_length_le (l := ys) (by rw [HY.out]; exact Nat.le_refl _)] at h
              exact decide_eq_true ⟨hl, h⟩)
            have hlt' : ¬ (k : Int) < (k : Int) := by omega
            go_wp2
            go_ret
            exact ⟨by rw [HM.out, HD.out]; rfl, (k1.trans k2).drewN _⟩
      · have hgt : decide ((xs.length : Int) ≤ (ys.length : Int)) = true := decide_eq_true (by omega)
        have HD := Lib.hid (show decide (ys.length < xs.length ∧ xs.take ys.length = ys) = false from decide_eq_false fun h => hl h.1)
        go_wp2_with fail
        go_ret
        exact ⟨by rw [HM.out, HD.out]; rfl, k1.trans k2⟩
end Go.Proofs.YtlkiaghpdjbfeaaDoor

namespace Go.Proofs.YtlkiaghpdjbfeaaDoor
open Go.RowKit Go.ChangeShapes Go.WideShapes Go.ChangeAt
theorem own : ownKnob Tryd.prog.godebug = none := by kernel_rfl
theorem laidOut : laidOutB Tryd.prog = true := by kernel_rfl
theorem cellsStr : Tryd.prog.cellsOf 9 = 1 := by kernel_rfl
theorem cellsU8 : Tryd.prog.cellsOf 5 = 1 := by kernel_rfl
theorem cellsCall : Tryd.prog.cellsOf 28 = 6 := by kernel_rfl
theorem cellsInt : Tryd.prog.cellsOf 3 = 1 := by kernel_rfl
theorem cellsBytes : Tryd.prog.cellsOf 26 = 1 := by kernel_rfl
theorem gTab : Tryd.prog.globalNamed "tideline/check.four" = some 0 := by kernel_rfl
theorem gTabType : (Tryd.prog.globals[0]?).map (·.type) = some 120 := by kernel_rfl
theorem cellsTab : Tryd.prog.cellsOf 120 = 16 := by kernel_rfl
theorem cellsU32 : Tryd.prog.cellsOf 68 = 1 := by kernel_rfl
def tabInts : List Int := [0, 498536548, 997073096, 651767980, 1994146192, 1802195444, 1303535960, 1342533948, 3988292384, 4027552580, 3604390888, 3412177804, 2607071920, 2262029012, 2685067896, 3183342108]
theorem tabInts_at (i : Nat) (h : i < 16) : tabInts.getD i 0 = ((tab.getD i 0 : Nat) : Int) := by
  have : ∀ i : Fin 16, tabInts.getD i.1 0 = ((tab.getD i.1 0 : Nat) : Int) := by decide
  exact this ⟨i, h⟩
theorem env_of {W : World} (h : W.ShapedOpen Tryd.prog) : Env W :=
  cell_of_shapedOpen_int (zero := #[.int .i64 0]) (t := 3) h (of_decide_eq_true (by kernel_rfl)) (by kernel_rfl) rfl (by kernel_rfl) (by kernel_rfl) Tryd.underlying3
theorem tab_of {W : World} {a b : String × DataW Unit} (h : laidMet Tryd.prog (a :: ("tideline/check.four", Lib.tabData .u32 tabInts) :: [b]) W) : Tab W := by
  have t : Lib.TabIs Tryd.prog W "tideline/check.four" .u32 tabInts := Lib.tabIs_of_head gTab gTabType Tryd.underlying120 Tryd.underlying68 cellsU32 cellsTab (laidMet.tail h)
  intro i hi
  rw [← tabInts_at i hi]
  exact t.cell gTab i (by simpa [tabInts] using hi)
def acceptInts : List Int := [128, 191, 160, 191, 128, 159, 144, 191, 128, 143, 0, 0, 0, 0, 0, 0, 0, 0, 0, 0, 0, 0, 0, 0, 0, 0, 0, 0, 0, 0, 0, 0]
def holdObj (cs : Array Value) : Obj → Obj
  | .cells _ t frozen => .cells cs t frozen
  | o => o
/-- A world for the witness: the settled one, the tables holding what their initialisers lay. -/
noncomputable def laidWorld (os : Os) : World :=
  { World.holding Tryd.prog os ⟨#[], #[], []⟩ with heap := (((World.holding Tryd.prog os ⟨#[], #[], []⟩).heap.modify 3 (holdObj (acceptInts.map (Value.int .u8)).toArray)).modify 0 (holdObj (tabInts.map (Value.int .u32)).toArray)).modify 2 (holdObj (Go.Pinned.utf8FirstZ.map fun n : Nat => Value.int .u8 (n : Int)).toArray) }
theorem callFields : ∃ f0 f1 f2 f3 f4 f5 : Field, Tryd.prog.underlying 28 = some (.struct #[f0, f1, f2, f3, f4, f5]) ∧ (f0.type = 3 ∧ f0.offset = 0) ∧ (f1.type = 9 ∧ f1.offset = 1) ∧ (f2.type = 9 ∧ f2.offset = 2) ∧ (f3.type = 3 ∧ f3.offset = 3) ∧ (f4.type = 3 ∧ f4.offset = 4) ∧ (f5.type = 26 ∧ f5.offset = 5) :=
  ⟨_, _, _, _, _, _, Tryd.underlying28, ⟨rfl, rfl⟩, ⟨rfl, rfl⟩, ⟨rfl, rfl⟩, ⟨rfl, rfl⟩, ⟨rfl, rfl⟩, ⟨rfl, rfl⟩⟩
section
variable {H : Type} {enc : TypeId × Value → H} {W : World}
set_option maxRecDepth 100000 in
theorem bytes_in {base : Nat} {spare : Nat → Bool} {held : Bool} {fuel : Nat} {cs : List Value} {y : DataW H × List MemPlace} (h : DataW.trod enc Tryd.prog W base spare held fuel 26 cs = some y) :
    ∃ (A : Option Addr) (l : List UInt8) (c : Nat), cs = [.slice A l.length c] ∧ l.length ≤ c ∧ c ≤ maxLen ∧ Rd W W.heap.size A l := by
  rcases DataW.trod_slice Tryd.underlying26 h with ⟨e3, _⟩ | ⟨a, m, c, _, _, _, _, e3, _⟩
  · exact ⟨none, [], 0, e3, Nat.le_refl _, Nat.zero_le _, Rd.nil⟩
  · rcases open_ints Tryd.underlying26 Tryd.underlying5 cellsU8 h with ⟨hcs, _⟩ | ⟨a, len, cap, zs, hcs, _, hl, hm, hz, _, hcell, hwz⟩
    · exact ⟨none, [], 0, hcs, Nat.le_refl _, Nat.zero_le _, Rd.nil⟩
    · have hle : len ≤ zs.length := by rw [hz]; split <;> omega
      have hb : ∀ n ∈ zs, 0 ≤ n ∧ n < 256 := fun n hn => by
        have h := hwz n hn
        have h1 : IntKind.u8.min = 0 := rfl
        have h2 : IntKind.u8.max = 255 := rfl
        simp only [Lit.wf, Bool.and_eq_true, decide_eq_true_eq, h1, h2] at h
        omega
      have hlen : ((zs.take len).map fun n => UInt8.ofNat n.toNat).length = len := by simp; omega
      refine ⟨some a, (zs.take len).map fun n => UInt8.ofNat n.toNat, cap, by rw [hlen]; exact hcs, by omega, hm, fun j b hj => ?_⟩
      have hjl : j < len := by
        rcases Nat.lt_or_ge j len with h' | h'
        · exact h'
        · rw [List.getElem?_eq_none (by omega)] at hj; cases hj
      have hc := hcell j (by omega)
      have hlt := World.block_lt_of_cell? W _ hc
      rw [block_add] at hlt
      refine ⟨a, rfl, hlt, ?_⟩
      rw [hc]
      have hjz : j < zs.length := by omega
      simp only [List.getElem?_map, List.getElem?_take, hjl, if_true, List.getElem?_eq_getElem hjz, Option.map_some, Option.some.injEq] at hj
      have hbj := hb _ (List.getElem_mem hjz)
      rw [← hj]
      simp only [List.getD, List.getElem?_eq_getElem hjz, Option.getD_some]
      have : (UInt8.ofNat zs[j].toNat).toNat = zs[j].toNat := by
        rw [UInt8.toNat_ofNat']
        exact Nat.mod_eq_of_lt (by omega)
      rw [this]
      congr 2
      omega
end
end Go.Proofs.YtlkiaghpdjbfeaaDoor

namespace Go.Proofs.YtlkiaghpdjbfeaaDoor
open Go.RowKit Go.ChangeShapes Go.WideShapes Go.ChangeAt
section
variable {H : Type} {enc : TypeId × Value → H} {W : World}
set_option maxRecDepth 100000 in
theorem call_cells {base : Nat} {spare : Nat → Bool} {held : Bool} {fuel : Nat} {cs : List Value} {y : DataW H × List MemPlace} (h : DataW.trod enc Tryd.prog W base spare held fuel 28 cs = some y) : ∃ (x : TCall) (A1 : Option Addr) (c1 : Nat), callL x A1 c1 = cs ∧ Rd W W.heap.size A1 x.data := by
  obtain ⟨f0, f1, f2, f3, f4, f5, hu, ⟨t0, o0⟩, ⟨t1, o1⟩, ⟨t2, o2⟩, ⟨t3, o3⟩, ⟨t4, o4⟩, ⟨t5, o5⟩⟩ := callFields
  obtain ⟨ys, n, _, _, hlen, hyl, hf⟩ := DataW.trod_struct hu h
  rw [cellsCall] at hlen
  match cs, hlen with
  | [c0, c1, c2, c3, c4, c5], _ =>
    have g0 := hf 0 f0 rfl
    have g1 := hf 1 f1 rfl
    have g2 := hf 2 f2 rfl
    have g3 := hf 3 f3 rfl
    have g4 := hf 4 f4 rfl
    have g5 := hf 5 f5 rfl
    rw [t0, o0, cellsInt, List.getElem?_eq_getElem (by rw [hyl]; simp)] at g0
    rw [t1, o1, cellsStr, List.getElem?_eq_getElem (by rw [hyl]; simp)] at g1
    rw [t2, o2, cellsStr, List.getElem?_eq_getElem (by rw [hyl]; simp)] at g2
    rw [t3, o3, cellsInt, List.getElem?_eq_getElem (by rw [hyl]; simp)] at g3
    rw [t4, o4, cellsInt, List.getElem?_eq_getElem (by rw [hyl]; simp)] at g4
    rw [t5, o5, cellsBytes, List.getElem?_eq_getElem (by rw [hyl]; simp)] at g5
    obtain ⟨k0, e0, _, _⟩ := DataW.trod_int Tryd.underlying3 g0
    obtain ⟨s1, e1, _, _⟩ := DataW.trod_string Tryd.underlying9 g1
    obtain ⟨s2, e2, _, _⟩ := DataW.trod_string Tryd.underlying9 g2
    obtain ⟨k3, e3, _, _⟩ := DataW.trod_int Tryd.underlying3 g3
    obtain ⟨k4, e4, _, _⟩ := DataW.trod_int Tryd.underlying3 g4
    obtain ⟨A1, l, c, e5, _, _, hr⟩ := bytes_in g5
    simp only [List.drop, List.take, List.cons.injEq, and_true] at e0 e1 e2 e3 e4 e5
    subst e0 e1 e2 e3 e4 e5
    exact ⟨⟨k0, s1.data.toList, s2.data.toList, k3, k4, l⟩, A1, c, by simp only [callL, ba_data], hr⟩
set_option maxRecDepth 100000 in
theorem open_calls {base b0 : Nat} {r : Reach} {spare : Nat → Bool} {held : Bool} {v : Value} {d : DataW H} {p : List MemPlace}
    (hv : Value.okWide Tryd.prog W r b0 22 v) (h : DataW.Trod enc Tryd.prog W base spare held 22 v d p) : ∃ (A : Option Addr) (xs : List TCall) (n c : Nat), v = .slice A n c ∧ n = xs.length ∧ n ≤ c ∧ c ≤ maxLen ∧ CallsAt W W.heap.size A xs := by
  obtain ⟨A, n, c, rfl, hc, hm, hi⟩ := open_cells Tryd.underlying22 (Nat.lt_of_lt_of_eq (show 0 < 6 by decide) cellsCall.symm) hv h
  have hx : ∀ i, i < n → ∃ x : TCall, ∃ b o A1 c1, A = some ⟨b, o, none⟩ ∧ b < W.heap.size ∧ (∀ j u, (callL x A1 c1)[j]? = some u → W.cell? ⟨b, o + i * 6 + j, none⟩ = some u) ∧ Rd W W.heap.size A1 x.data := fun i hin => by
    obtain ⟨b, o, cs, fuel, y, hA, hb, _, hcell, hy⟩ := hi i hin
    obtain ⟨x, A1, c1, rfl, hr⟩ := call_cells hy
    rw [cellsCall] at hcell
    exact ⟨x, b, o, A1, c1, hA, hb, hcell, hr⟩
  have each : ∀ k, k ≤ n → ∃ xs : List TCall, xs.length = k ∧ CallsAt W W.heap.size A xs := fun k => by
    induction k with
    | zero => exact fun _ => ⟨[], rfl, fun i x h => by simp at h⟩
    | succ k ih =>
      intro hk
      obtain ⟨xs, hl, hxs⟩ := ih (by omega)
      obtain ⟨x, b, o, A1, c1, hA, hb, hcell, hr⟩ := hx k (by omega)
      refine ⟨xs ++ [x], by simp [hl], fun i y hy => ?_⟩
      rcases Nat.lt_or_ge i xs.length with hlt | hge
      · rw [List.getElem?_append_left hlt] at hy
        exact hxs i y hy
      · rw [List.getElem?_append_right hge] at hy
        have hi0 : i - xs.length = 0 := by
          rcases Nat.eq_zero_or_pos (i - xs.length) with h | h
          · exact h
          · rw [List.getElem?_eq_none (by simp; omega)] at hy; cases hy
        rw [hi0] at hy
        simp at hy
        subst hy
        have : i = k := by omega
        subst this
        exact ⟨b, o, A1, c1, hA, hb, hcell, hr⟩
  obtain ⟨xs, hl, hxs⟩ := each n (Nat.le_refl _)
  exact ⟨A, xs, n, c, rfl, hl.symm, hc, hm, hxs⟩
end
end Go.Proofs.YtlkiaghpdjbfeaaDoor
