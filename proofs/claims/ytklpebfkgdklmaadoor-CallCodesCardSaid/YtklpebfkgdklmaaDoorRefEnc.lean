/-
  WALKS of the document's own answers: calls and answers as bytes.
-/
import Derived.Test.YtklpebfkgdklmaaDoorRefPut
import Derived.Test.YtklpebfkgdklmaaDoorWn
import Derived.Test.YtklpebfkgdklmaaDoorEncA
import Derived.Deep.RegionHeld3
namespace Go.Proofs.YtklpebfkgdklmaaDoor
open Go.RowKit

set_option maxHeartbeats 400000 in
/-- Bytes, from wherever they lie but in the row itself. -/
theorem gbytes2 {a w : World} {A : Option Addr} {c m : Nat} {l : List UInt8} (h : Gr a w (.slice A m c) l) (hm : m = l.length) (B : Option Addr) (d n : Nat) (b : List UInt8) (hn : n = b.length) (hl : b.length ≤ 1000000000) (hb : l.length ≤ 35184372088832) (hr : Rd w w.heap.size B b) (hne : ∀ q, B = some q → (Value.slice A m c).ownBlock ≠ some q.block) :
    Calls Tryd.prog 34 #[.slice A m c, .slice B n d] w (Grows a (l ++ tx b)) := by
  subst hm
  have C : Hid (Calls Tryd.prog 36 #[.slice A l.length c, .int .u64 b.length, .int .i64 4] w fun e w' => Grows a (l ++ be b.length 4) e w' ∧ Rd w' w.heap.size B b) := Lib.hid (by
    refine (put_any A l.length c l b.length 4 w h.own (by omega) (by omega) (by omega)).mono fun e w' p => ⟨h.puts p, ?_⟩
    obtain ⟨_, _, _, _, _, k, _⟩ := p
    exact hr.keepS (Nat.le_refl _) k (fun q hq => hne q hq))
  have hz : IntKind.u64.wrap ((n : Nat) : Int) = (b.length : Int) := by rw [IntKind.wrap_u64]; omega
  have HN := Lib.hid hn
  have e : l ++ tx b = (l ++ be b.length 4) ++ b := by unfold tx; rw [List.append_assoc]
  rw [e]
  have hlb : (l ++ be b.length 4).length + b.length ≤ 70368744177664 := by simp [be_length]; omega
  clear h hn e hr hne
  generalize l ++ be b.length 4 = L at *
  generalize l.length = m at *
  generalize hbl : b.length = bl at *
  have HBL := Lib.hid hbl
  clear hbl
  go_enter Tryd.func34, Tryd.ntmps34
  go_wp2_with fail
  refine C.out.mono ?_
  rintro e w1 ⟨⟨A1, c1, rfl, g1⟩, hr1⟩
  generalize hL : L.length = ml at *
  have HL := Lib.hid hL
  clear hL
  go_wp2_with (at_builtin; refine wpList_append_u8 _ rfl _ _ _ rfl bytesT _ L rfl g1.own w.heap.size B n d b rfl (by rw [HBL.out]; exact HN.out) hr1 (by rw [HL.out, HBL.out]; exact hlb) ?_; intro A4 n4 c4 w4 o4 e4 h4 m4 g4 f4)
  go_ret
  have hn4 := e4.out
  subst hn4
  refine ⟨A4, c4, rfl, o4, g1.keep.own g4 g1.new, g1.new.next g1.keep.size f4⟩
set_option maxHeartbeats 400000 in
theorem gtext {a w : World} {A : Option Addr} {c m : Nat} {l : List UInt8} (h : Gr a w (.slice A m c) l) (hm : m = l.length) (p : Txt) (hl : p.length ≤ 1000000) (hb : l.length ≤ 35184372088832) :
    Calls Tryd.prog 32 #[.slice A m c, .string (ba p)] w (Grows a (l ++ tx p)) := by
  have cv := conv_text
  have hold := h.own.lt
  have hs : (ba p).data.toList = p := by simp
  have kb := kf_bytes w 5 (ba p)
  have C := Lib.hid fun cc => gbytes2 (h.later kb) hm (some ⟨w.heap.size, 0, none⟩) cc p.length p rfl (by omega) hb (by have := rd_bytes w 5 (ba p); rw [hs] at this; exact this.more (by rw [Lib.bytesWorld_size]; omega)) (fun q hq e => by
    injection hq with hq
    subst hq
    have := hold _ e
    simp only at this
    omega)
  have hsz := ba_size p
  clear h hold hs kb hm
  generalize l ++ tx p = L at *
  generalize p.length = pl at *
  go_enter Tryd.func32, Tryd.ntmps32
  go_wp2_with fail
  refine (C.out _).mono ?_
  rintro e w1 ⟨A1, c1, rfl, g1⟩
  go_wp2_with fail
  go_ret
  exact ⟨A1, c1, rfl, g1⟩
theorem gint2 (a : World) {l L : List UInt8} (z : Int) (hL : l ++ be (u64 z) 8 = L) (hb : l.length ≤ 70368744177600) : ∀ A c W, Gr a W (.slice A l.length c) l → Calls Tryd.prog 33 #[.slice A l.length c, .int .i64 z] W (Grows a L) := fun A c W h => by
  rw [← hL]
  exact gint h rfl z hb
set_option maxRecDepth 100000 in
set_option maxHeartbeats 2000000 in
theorem refEncode_any (x : TCall) (A : Option Addr) (d c : Nat) (w : World) (hp : x.path.length ≤ 1000000) (ho : x.other.length ≤ 1000000) (hd : x.data.length ≤ 1000000) (hdl : d = x.data.length) (hr : Rd w w.heap.size A x.data) :
    Calls Tryd.prog 12 #[.agg #[.int .i64 x.kind, .string (ba x.path), .string (ba x.other), .int .i64 x.off, .int .i64 x.n, .slice A d c]] w (FreshE w (wrapB (encC x))) := by
  obtain ⟨w1, hw1⟩ : ∃ w1, w.alloc (.cells #[.int .i64 x.kind, .string (ba x.path), .string (ba x.other), .int .i64 x.off, .int .i64 x.n, .slice A d c] 24) = w1 := ⟨_, rfl⟩
  obtain ⟨g0, hg0⟩ : ∃ g0, w.heap.size = g0 := ⟨_, rfl⟩
  have b1 : w1.heap[g0]? = some (.cells #[.int .i64 x.kind, .string (ba x.path), .string (ba x.other), .int .i64 x.off, .int .i64 x.n, .slice A d c] 24) := by rw [← hw1, ← hg0]; exact heap_alloc_new w _
  have k01 : KF w w1 := by rw [← hw1]; exact (KF.refl _).alloc _
  have hlt := lt_of_block b1
  have CELL := Lib.hid fun wx (k : KF w1 wx) => six_cells ((k.block g0 hlt (fun h => h)).trans b1)
  have RD := Lib.hid (show Rd w1 w1.heap.size A x.data from (hr.keepF k01 (Nat.le_refl _)).more k01.size)
  have hk8 : IntKind.u8.wrap x.kind = ((b8 x.kind).toNat : Int) := by rw [IntKind.wrap_u8, b8_toNat]; omega
  have HW1 := Lib.hid hw1
  have HG0 := Lib.hid hg0
  have HDL := Lib.hid hdl
  have HE : Hid (encC x = [b8 x.kind] ++ tx x.path ++ tx x.other ++ be (u64 x.off) 8 ++ be (u64 x.n) 8 ++ tx x.data) := Lib.hid rfl
  have hle := encC_length x
  clear hw1 hg0 hdl hr b1 hlt
  go_enter Tryd.func12, Tryd.ntmps12
  go_upto_region 1 with fail
  rw [HW1.out, HG0.out]
  clear HW1 HG0
  obtain ⟨p0, p1, p2, p3, p4, p5⟩ := CELL.out w1 (KF.refl _)
  have G1 := Gr.lit w1 (b8 x.kind)
  obtain ⟨w2, hw2⟩ : ∃ w2, w1.alloc (.cells #[.int .u8 (b8 x.kind).toNat] 5) = w2 := ⟨_, rfl⟩
  rw [hw2] at G1
  have HW2 := Lib.hid hw2
  clear hw2
  go_upto_region 2 with fail
  rw [HW2.out]
  clear p0 p1 p2 p3 p4 p5 HW2 hk8
  obtain ⟨p0, p1, p2, p3, p4, p5⟩ := CELL.out w2 G1.keep
  have C1 := Lib.hid (gtext G1 rfl x.path hp (by simp))
  obtain ⟨L2, hL2⟩ : ∃ L2, [b8 x.kind] ++ tx x.path = L2 := ⟨_, rfl⟩
  have hl2 : L2.length = 1 + (4 + x.path.length) := by rw [← hL2]; simp [tx_length]; omega
  rw [hL2] at C1 HE
  go_wp2_with fail
  refine C1.out.mono ?_
  rintro e w3 ⟨A3, c3, rfl, G3⟩
  clear p0 p1 p2 p3 p4 p5 C1 G1 hL2
  obtain ⟨p0, p1, p2, p3, p4, p5⟩ := CELL.out w3 G3.keep
  have C2 := Lib.hid (gtext G3 rfl x.other ho (by omega))
  obtain ⟨L3, hL3⟩ : ∃ L3, L2 ++ tx x.other = L3 := ⟨_, rfl⟩
  have hl3 : L3.length = L2.length + (4 + x.other.length) := by rw [← hL3]; simp [tx_length]
  rw [hL3] at C2 HE
  have Hl2 := Lib.hid hl2
  have Hl3 := Lib.hid hl3
  clear hl2 hl3
  go_wp2_with fail
  refine C2.out.mono ?_
  rintro e w4 ⟨A4, c4, rfl, G4⟩
  clear p0 p1 p2 p3 p4 p5 C2 G3 hL3
  obtain ⟨L4, hL4⟩ : ∃ L4, L3 ++ be (u64 x.off) 8 = L4 := ⟨_, rfl⟩
  obtain ⟨L5, hL5⟩ : ∃ L5, L4 ++ be (u64 x.n) 8 = L5 := ⟨_, rfl⟩
  have Hl4 := Lib.hid (show L4.length = L3.length + 8 by rw [← hL4]; simp [be_length])
  have Hl5 := Lib.hid (show L5.length = L4.length + 8 by rw [← hL5]; simp [be_length])
  have C3 := Lib.hid (gint2 w1 (L := L4) x.off hL4 (by have := Hl3.out; have := Hl2.out; omega))
  have C4 := Lib.hid (gint2 w1 (L := L5) x.n hL5 (by have := Hl3.out; have := Hl2.out; have := Hl4.out; omega))
  rw [hL4, hL5] at HE
  clear hL4 hL5
  go_upto_region 4 with fail
  go_cut [3] (fun s wx => ∃ A c, s = .slice A L5.length c ∧ Gr w1 wx (.slice A L5.length c) L5)
  case first =>
    go_region_held3 (fun W => W.cell? ⟨g0, 0, none⟩ = some (.int .i64 x.kind) ∧ W.cell? ⟨g0, 1, none⟩ = some (.string (ba x.path)) ∧ W.cell? ⟨g0, 2, none⟩ = some (.string (ba x.other)) ∧ W.cell? ⟨g0, 3, none⟩ = some (.int .i64 x.off) ∧ W.cell? ⟨g0, 4, none⟩ = some (.int .i64 x.n) ∧ W.cell? ⟨g0, 5, none⟩ = some (.slice A d c))
      (first | exact CELL.out _ G4.keep | exact CELL.out _ G4.keep.drew | exact CELL.out _ (by assumption))
      (first
        | (go_at_call_of 33 (Value.slice A4 L3.length c4); refine (C3.out _ _ _ ?_).mono ?_; (first | exact G4.later (KF.refl _) | exact G4.later (KF.refl _).drew | exact G4.later (by assumption)); rintro e wA ⟨A6, c6, rfl, G6⟩; have kA : KF w1 wA := G6.keep)
        | (go_at_call 33; refine (C4.out _ _ _ ?_).mono ?_; (first | exact G6.later (KF.refl _) | exact G6.later (KF.refl _).drew | exact G6.later (by assumption)); rintro e wB ⟨A7, c7, rfl, G7⟩; have kB : KF w1 wB := G7.keep))
    all_goals (go_wp2_with fail)
    all_goals go_meet
    all_goals exact ⟨A7, c7, rfl, G7⟩
  case rest =>
    obtain ⟨A7, c7, rfl, G7⟩ := hcut
    obtain ⟨p0, p1, p2, p3, p4, p5⟩ := CELL.out wc G7.keep
    have C5 := Lib.hid (gbytes G7 rfl A c d x.data HDL.out (by omega) (by have := Hl3.out; have := Hl2.out; have := Hl4.out; have := Hl5.out; omega) RD.out)
    rw [← HE.out] at C5
    clear C3 C4 G4
    go_wp2_with fail
    refine C5.out.mono ?_
    rintro e w8 ⟨A8, c8, rfl, G8⟩
    have C8 := Lib.hid (refWrap_any A8 (encC x) (encC x).length c8 w8 rfl (by omega) w8.heap.size G8.own.rd (Nat.le_refl _))
    have kw8 := KF.trans k01 G8.keep
    have hE : encC x ++ be (crc (encC x)) 4 = wrapB (encC x) := rfl
    rw [hE] at C8
    clear p0 p1 p2 p3 p4 p5 C5 G7 G8 hE hle HE
    generalize wrapB (encC x) = W at *
    generalize (encC x).length = n8 at *
    go_wp2_with fail
    refine C8.out.mono ?_
    rintro e w9 ⟨n9, hn9, A9, c9, rfl, o9, v9, k9⟩
    subst hn9
    go_wp2_with fail
    go_ret
    exact ⟨_, rfl, A9, c9, rfl, o9, v9.older kw8.size, KF.trans kw8 k9⟩
theorem Gr.lit0 {a W : World} (k : KF a W) (hs : W.heap.size = a.heap.size) : Gr a (W.alloc (.cells #[] 5)) (.slice (some ⟨a.heap.size, 0, none⟩) 0 0) [] := by
  have h := Own.lit 5 W [] (by decide)
  rw [hs] at h
  exact ⟨h, k.alloc _, NB.new (w := a) (Nat.le_refl _) _ _⟩
set_option maxRecDepth 100000 in
set_option maxHeartbeats 4000000 in
theorem refEncodeA_any (x : IAns) (A C : Option Addr) (c c' : Nat) (w : World) (hd : x.data.length ≤ 1000000) (hn : x.names.length ≤ 1000) (hx : ∀ p ∈ x.names, p.length ≤ 1000000) (hr : Rd w w.heap.size A x.data) (hs : Strs w w.heap.size C (x.names.map ba)) :
    Calls Tryd.prog 13 #[.agg #[.int .i64 x.err, .int .i64 x.kind, .int .i64 x.size, .int .i64 x.links, .slice A x.data.length c, .slice C x.names.length c']] w (FreshE w (wrapB (encA x))) := by
  obtain ⟨w1, hw1⟩ : ∃ w1, w.alloc (.cells #[.int .i64 x.err, .int .i64 x.kind, .int .i64 x.size, .int .i64 x.links, .slice A x.data.length c, .slice C x.names.length c'] 28) = w1 := ⟨_, rfl⟩
  obtain ⟨g0, hg0⟩ : ∃ g0, w.heap.size = g0 := ⟨_, rfl⟩
  have b1 : w1.heap[g0]? = some (.cells #[.int .i64 x.err, .int .i64 x.kind, .int .i64 x.size, .int .i64 x.links, .slice A x.data.length c, .slice C x.names.length c'] 28) := by rw [← hw1, ← hg0]; exact heap_alloc_new w _
  have k01 : KF w w1 := by rw [← hw1]; exact (KF.refl _).alloc _
  have hlt := lt_of_block b1
  have RD := Lib.hid (show Rd w1 w1.heap.size A x.data from (hr.keepF k01 (Nat.le_refl _)).more k01.size)
  have SD := Lib.hid fun W (k : KF w1 W) => (hs.kept k01).kept k
  obtain ⟨dl, hdl⟩ : ∃ dl, x.data.length = dl := ⟨_, rfl⟩
  obtain ⟨nl, hnl⟩ : ∃ nl, x.names.length = nl := ⟨_, rfl⟩
  have CELL := Lib.hid fun wx (k : KF w1 wx) => six_cells ((k.block g0 hlt (fun h => h)).trans b1)
  rw [hdl, hnl] at CELL hw1
  have HW1 := Lib.hid hw1
  have HG0 := Lib.hid hg0
  have HDL := Lib.hid hdl
  have HNL := Lib.hid hnl
  rw [hdl, hnl]
  have hfl : ∀ ys : List Txt, (∀ p ∈ ys, p.length ≤ 1000000) → (ys.flatMap tx).length ≤ 1000004 * ys.length := by
    intro ys
    induction ys with
    | nil => intro _; simp
    | cons y ys ih =>
      intro hy
      have h1 := ih (fun p hp => hy p (List.mem_cons_of_mem _ hp))
      have h2 := hy y List.mem_cons_self
      rw [List.flatMap_cons, List.length_append, tx_length, List.length_cons]
      omega
  have HFL := Lib.hid fun k => show ((x.names.take k).flatMap tx).length ≤ 1000004000 by
    have h1 := hfl (x.names.take k) (fun p hp => hx p (List.mem_of_mem_take hp))
    have h2 : (x.names.take k).length ≤ 1000 := by rw [List.length_take]; omega
    have : 1000004 * (x.names.take k).length ≤ 1000004 * 1000 := Nat.mul_le_mul_left _ h2
    omega
  clear hw1 hg0 hr hs b1 hlt hdl hnl hfl
  obtain ⟨L1, hL1⟩ : ∃ L1, [] ++ be (u64 x.err) 8 = L1 := ⟨_, rfl⟩
  obtain ⟨L2, hL2⟩ : ∃ L2, L1 ++ be (u64 x.kind) 8 = L2 := ⟨_, rfl⟩
  obtain ⟨L3, hL3⟩ : ∃ L3, L2 ++ be (u64 x.size) 8 = L3 := ⟨_, rfl⟩
  obtain ⟨L4, hL4⟩ : ∃ L4, L3 ++ be (u64 x.links) 8 = L4 := ⟨_, rfl⟩
  have e1 : L1.length = 8 := by rw [← hL1]; simp [be_length]
  have e2 : L2.length = 16 := by rw [← hL2]; simp [be_length, e1]
  have e3 : L3.length = 24 := by rw [← hL3]; simp [be_length, e2]
  have e4 : L4.length = 32 := by rw [← hL4]; simp [be_length, e3]
  have C1 := Lib.hid fun W (h : Gr w1 W (.slice (some ⟨w1.heap.size, 0, none⟩) 0 0) []) => gint2 w1 (l := []) (L := L1) x.err hL1 (by simp) (some ⟨w1.heap.size, 0, none⟩) 0 W h
  have C2 := Lib.hid (gint2 w1 (L := L2) x.kind hL2 (by omega))
  have C3 := Lib.hid (gint2 w1 (L := L3) x.size hL3 (by omega))
  have C4 := Lib.hid (gint2 w1 (L := L4) x.links hL4 (by omega))
  have HE : Hid (encA x = L4 ++ tx x.data ++ be x.names.length 4 ++ (x.names.take x.names.length).flatMap tx) := Lib.hid (by rw [← hL4, ← hL3, ← hL2, ← hL1, List.take_length]; unfold encA lst; simp only [List.nil_append, List.append_assoc])
  have HE4 := Lib.hid e4
  have E1 := Lib.hid e1
  have E2 := Lib.hid e2
  have E3 := Lib.hid e3
  have z0 : ([] : List UInt8).length = 0 := rfl
  rw [z0] at C1
  clear hL1 hL2 hL3 hL4 e1 e2 e3 e4 z0
  go_enter Tryd.func13, Tryd.ntmps13
  go_upto_region 1 with fail
  rw [HW1.out, HG0.out]
  clear HW1 HG0
  go_cut [3] (fun s wx => ∃ A c, s = .slice A L4.length c ∧ Gr w1 wx (.slice A L4.length c) L4)
  case first =>
    go_region_held3 (fun W => W.cell? ⟨g0, 0, none⟩ = some (.int .i64 x.err) ∧ W.cell? ⟨g0, 1, none⟩ = some (.int .i64 x.kind) ∧ W.cell? ⟨g0, 2, none⟩ = some (.int .i64 x.size) ∧ W.cell? ⟨g0, 3, none⟩ = some (.int .i64 x.links) ∧ W.cell? ⟨g0, 4, none⟩ = some (.slice A dl c) ∧ W.cell? ⟨g0, 5, none⟩ = some (.slice C nl c'))
      (first | exact CELL.out _ (KF.refl _) | exact CELL.out _ (KF.refl _).drew | exact CELL.out _ (by assumption) | exact CELL.out _ ((KF.refl _).alloc _) | exact CELL.out _ ((KF.refl _).drew.alloc _))
      (first
        | (go_at_call_of 33 (Value.slice (some ⟨w1.heap.size, 0, none⟩) 0 0); refine (C1.out _ ?_).mono ?_; (first | exact Gr.lit0 (KF.refl _) rfl | exact Gr.lit0 (KF.refl _).drew rfl | exact (Gr.lit0 (KF.refl _) rfl).later (KF.refl _).drew | exact (Gr.lit0 (KF.refl _).drew rfl).later (KF.refl _).drew); rintro e wA ⟨A6, c6, rfl, G6⟩; have kA : KF w1 wA := G6.keep)
        | (go_at_call_of 33 (Value.slice A6 L1.length c6); refine (C2.out _ _ _ ?_).mono ?_; (first | exact G6.later (KF.refl _) | exact G6.later (KF.refl _).drew | exact G6.later (by assumption)); rintro e wB ⟨A7, c7, rfl, G7⟩; have kB : KF w1 wB := G7.keep)
        | (go_at_call_of 33 (Value.slice A7 L2.length c7); refine (C3.out _ _ _ ?_).mono ?_; (first | exact G7.later (KF.refl _) | exact G7.later (KF.refl _).drew | exact G7.later (by assumption)); rintro e wC ⟨A8, c8, rfl, G8⟩; have kC : KF w1 wC := G8.keep)
        | (go_at_call_of 33 (Value.slice A8 L3.length c8); refine (C4.out _ _ _ ?_).mono ?_; (first | exact G8.later (KF.refl _) | exact G8.later (KF.refl _).drew | exact G8.later (by assumption)); rintro e wD ⟨A9, c9, rfl, G9⟩; have kD : KF w1 wD := G9.keep))
    all_goals (go_wp2_with fail)
    all_goals go_meet
    all_goals exact ⟨A9, c9, rfl, G9⟩
  case rest =>
    obtain ⟨A9, c9, rfl, G9⟩ := hcut
    obtain ⟨p0, p1, p2, p3, p4, p5⟩ := CELL.out wc G9.keep
    obtain ⟨L5, hL5⟩ : ∃ L5, L4 ++ tx x.data = L5 := ⟨_, rfl⟩
    obtain ⟨L6, hL6⟩ : ∃ L6, L5 ++ be nl 4 = L6 := ⟨_, rfl⟩
    have E5 := Lib.hid (show L5.length ≤ 2000000 by rw [← hL5, List.length_append, tx_length, HE4.out]; omega)
    have E6 := Lib.hid (show L6.length ≤ 3000000 by rw [← hL6, List.length_append, be_length]; have := E5.out; omega)
    have C5 := Lib.hid (gbytes G9 rfl A c dl x.data HDL.out.symm (by omega) (by rw [HE4.out]; omega) RD.out)
    rw [hL5] at C5
    have C6 := Lib.hid fun A c W (h : Gr w1 W (.slice A L5.length c) L5) => show Calls Tryd.prog 36 #[.slice A L5.length c, .int .u64 nl, .int .i64 4] W (Grows w1 L6) by
      rw [← hL6]
      exact gput h nl 4 (by have := HNL.out; omega) (by omega) (by have := E5.out; omega)
    have hz : IntKind.u64.wrap ((nl : Nat) : Int) = (nl : Int) := by rw [IntKind.wrap_u64]; have := HNL.out; omega
    rw [hL5, HNL.out, hL6] at HE
    clear C1 C2 C3 C4 hL5 hL6
    go_wp2_with fail
    refine C5.out.mono ?_
    rintro e w5 ⟨A10, c10, rfl, G10⟩
    clear p0 p1 p2 p3 p4 p5 C5
    obtain ⟨p0, p1, p2, p3, p4, p5⟩ := CELL.out w5 G10.keep
    have C7 := Lib.hid (C6.out _ _ _ G10)
    clear C6
    go_wp2_with fail
    refine C7.out.mono ?_
    rintro e w6 ⟨A11, c11, rfl, G11⟩
    clear p0 p1 p2 p3 p4 p5 C7 G9 G10 hz
    have CT := Lib.hid fun k A c W y (hk : (x.names.take k).flatMap tx = y) (h : Gr w1 W (.slice A (L6 ++ y).length c) (L6 ++ y)) (q : k < x.names.length) => show Calls Tryd.prog 32 #[.slice A (L6 ++ y).length c, .string (ba x.names[k])] W (Grows w1 (L6 ++ (x.names.take (k + 1)).flatMap tx)) by
      have h1 := gtext h rfl x.names[k] (hx _ (List.getElem_mem q)) (by rw [List.length_append, ← hk]; have := HFL.out k; have := E6.out; omega)
      have e : L6 ++ y ++ tx x.names[k] = L6 ++ (x.names.take (k + 1)).flatMap tx := by
        rw [List.take_succ_eq_append_getElem q, List.flatMap_append, ← hk]
        simp
      rw [e] at h1
      exact h1
    go_wp2_with fail
    go_loopg [3, 4] nl (fun gh s3 i wr => ∃ k : Nat, k ≤ nl ∧ nl - k ≤ gh ∧ i = .int .i64 k ∧ ∃ A c, s3 = .slice A (L6 ++ (x.names.take k).flatMap tx).length c ∧ Gr w1 wr (.slice A (L6 ++ (x.names.take k).flatMap tx).length c) (L6 ++ (x.names.take k).flatMap tx))
    case atStart => exact ⟨0, by omega, by omega, rfl, A11, c11, by simp, by simpa using G11⟩
    case round =>
      obtain ⟨k, hk, hg, rfl, A12, c12, rfl, G12⟩ := hrel
      obtain ⟨p0, p1, p2, p3, p4, p5⟩ := CELL.out wr G12.keep
      rcases Nat.lt_or_ge k nl with hlt | hge
      · have hlt' : (k : Int) < (nl : Int) := by omega
        have q1 : k < x.names.length := by rw [HNL.out]; exact hlt
        obtain ⟨b, o, rfl, hbb, hcell⟩ := SD.out wr G12.keep k (ba x.names[k]) (by rw [List.getElem?_map, List.getElem?_eq_getElem q1]; rfl)
        have C13 := Lib.hid (CT.out k _ _ _ _ rfl G12 q1)
        obtain ⟨N12, hN12⟩ : ∃ N12, (L6 ++ (x.names.take k).flatMap tx).length = N12 := ⟨_, rfl⟩
        rw [hN12] at C13 ⊢
        obtain ⟨L13, hL13⟩ : ∃ L13, L6 ++ (x.names.take (k + 1)).flatMap tx = L13 := ⟨_, rfl⟩
        rw [hL13] at C13
        have HL13 := Lib.hid hL13
        clear hN12 hL13 CT
        generalize x.names[k] = nm at *
        go_wp2_with fail
        refine C13.out.mono ?_
        rintro e w7 ⟨A13, c13, rfl, G13⟩
        clear C13
        go_wp2_with fail
        go_roundg (nl - (k + 1))
        case measure => omega
        case rel =>
          refine ⟨k + 1, by omega, by omega, by go_num, A13, c13, ?_, ?_⟩
          · rw [HL13.out]
          · rw [HL13.out]; exact G13
      · obtain rfl : k = nl := by omega
        have hlt' : ¬ (k : Int) < (k : Int) := by omega
        have he : L6 ++ (x.names.take k).flatMap tx = encA x := by rw [HE.out]
        rw [he] at G12 ⊢
        have hle : (encA x).length ≤ 2000000000 := by rw [HE.out, List.length_append]; have := HFL.out k; have := E6.out; omega
        have C8 := Lib.hid (refWrap_any A12 (encA x) (encA x).length c12 wr rfl (by omega) wr.heap.size G12.own.rd (Nat.le_refl _))
        have kw8 := KF.trans k01 G12.keep
        have hE : encA x ++ be (crc (encA x)) 4 = wrapB (encA x) := rfl
        rw [hE] at C8
        clear hE he hle HE CT G12
        generalize wrapB (encA x) = W at *
        generalize (encA x).length = n8 at *
        go_wp2_with fail
        refine C8.out.mono ?_
        rintro e w9 ⟨n9, hn9, A9, c9, rfl, o9, v9, k9⟩
        subst hn9
        go_wp2_with fail
        go_ret
        exact ⟨_, rfl, A9, c9, rfl, o9, v9.older kw8.size, KF.trans kw8 k9⟩
end Go.Proofs.YtklpebfkgdklmaaDoor
