/-
  The reference's do, whatever the call.
  The reference's do, as CallAnswers asks it.
-/
import Derived.Test.YtlkiaghpdjbfeaaDoorPk2
import Derived.Test.YtlkiaghpdjbfeaaDoorPhRefCreate
import Derived.Test.YtlkiaghpdjbfeaaDoorPhRefCut
import Derived.Test.YtlkiaghpdjbfeaaDoorPhRefGone2
import Derived.Test.YtlkiaghpdjbfeaaDoorPhRefRen
import Derived.Test.YtlkiaghpdjbfeaaDoorPhRefWrite
import Derived.Test.YtlkiaghpdjbfeaaDoorPhRefList
import Derived.Test.YtlkiaghpdjbfeaaDoorPk5
namespace Go.Proofs.YtlkiaghpdjbfeaaDoor
open Go.RowKit
variable {Zp : Nat → Prop}

theorem bare_make (t : Tr) (k : Nat) (s : Txt) : BareA (doMake t k s).1 := by
  unfold doMake; split
  · exact BareA.err _
  · split
    · exact BareA.err _
    · exact BareA.ok
theorem bare_rmdir (t : Tr) (s : Txt) : BareA (doRmdir t s).1 := by
  unfold doRmdir; split
  · exact BareA.err _
  · split
    · exact BareA.err _
    · split
      · exact BareA.err _
      · exact BareA.ok
theorem bare_unlink (t : Tr) (s : Txt) : BareA (doUnlink t s).1 := by
  unfold doUnlink; split
  · exact BareA.err _
  · split
    · exact BareA.err _
    · exact BareA.ok
theorem bare_link (t : Tr) (s o : Txt) : BareA (doLink t s o).1 := by
  unfold doLink; split
  · exact BareA.err _
  · split
    · exact BareA.err _
    · split
      · exact BareA.err _
      · exact BareA.ok
theorem bare_rename (t : Tr) (s o : Txt) : BareA (doRename t s o).1 := by
  unfold doRename; split
  · exact BareA.err _
  · split
    · exact BareA.ok
    · split
      · exact BareA.err _
      · split
        · exact BareA.err _
        · exact BareA.ok
theorem bare_write (t : Tr) (s : Txt) (o : Int) (d : Txt) : BareA (doWrite t s o d).1 := by
  unfold doWrite; split
  · exact BareA.err _
  · split
    · exact BareA.err _
    · split
      · exact BareA.err _
      · exact BareA.ok
theorem bare_cut (t : Tr) (s : Txt) (n : Int) : BareA (doCut t s n).1 := by
  unfold doCut; split
  · exact BareA.err _
  · split
    · exact BareA.err _
    · split
      · exact BareA.err _
      · exact BareA.ok
theorem RAns.quiet {g : Nat} {t : Tr} {k : Nat} {w w' : World} (h : RefAt Zp w g t) (kf : KF w w') : RAns Zp g (errA k, t) w (.returned (.tuple #[.agg zAns, .int .i64 (k : Int)])) w' :=
  RDid.ans ⟨rfl, Keep.mono kf (fun _ _ h => h.elim), h.kept kf⟩ (BareA.err k)
theorem rdo_any (w : World) (g : Nat) (t : Tr) (c : TCall) (Ad : Option Addr) (kd cd : Nat) (hkd : kd = c.data.length) (hkb : kd ≤ 1000000) (hdr : Rd w w.heap.size Ad c.data) (h : RefAt Zp w g t) (G : Good t) (hb : Small t) (hp : c.path.length ≤ 1000) (ho : c.other.length ≤ 1000) :
    Calls Tryd.prog 14 #[.pointer (some ⟨g, 0, none⟩), .agg #[.int .i64 c.kind, .string (ba c.path), .string (ba c.other), .int .i64 c.off, .int .i64 c.n, .slice Ad kd cd]] w (RAns Zp g (doT t c) w) := by
  have sp : (ba c.path).size ≤ 1000 := by rw [ba_size]; exact hp
  have so : (ba c.other).size ≤ 1000 := by rw [ba_size]; exact ho
  refine doT_cases t c (fun r => Calls _ _ _ w (RAns Zp g r w)) ?_ ?_ ?_ ?_ ?_ ?_ ?_ ?_ ?_ ?_ ?_ ?_ ?_
  · intro hk
    rw [hk]
    exact (rdo_mkdir w g t c.off c.n (ba c.path) _ _ h G hb sp).mono fun e w' hh => RDid.ans hh (bare_make _ _ _)
  · intro hk
    rw [hk]
    exact (rdo_rmdir w g t c.off c.n (ba c.path) _ _ h G hb sp).mono fun e w' hh => RDid.ans hh (bare_rmdir _ _)
  · intro hk
    rw [hk]
    exact (rdo_create w g t c.off c.n (ba c.path) _ _ h G hb sp).mono fun e w' hh => RDid.ans hh (bare_make _ _ _)
  · intro hk
    rw [hk]
    exact (rdo_unlink w g t c.off c.n (ba c.path) _ _ h G hb sp).mono fun e w' hh => RDid.ans hh (bare_unlink _ _)
  · intro hk
    rw [hk]
    exact (rdo_link w g t c.off c.n (ba c.path) (ba c.other) _ h G hb sp so).mono fun e w' hh => RDid.ans hh (bare_link _ _ _)
  · intro hk
    rw [hk]
    exact (rdo_rename w g t c.off c.n (ba c.path) (ba c.other) _ h G hb sp so).mono fun e w' hh => RDid.ans hh (bare_rename _ _ _)
  · intro hk
    rw [hk]
    exact (rdo_write w g t c.off c.n (ba c.path) _ _ Ad kd cd c.data rfl hkd hkb hdr h G hb sp).mono fun e w' hh => RDid.ans hh (bare_write _ _ _ _)
  · intro hk
    rw [hk]
    exact rdo_read w g t c.off c.n (ba c.path) _ _ h G hb sp
  · intro hk
    rw [hk]
    exact (rdo_cut w g t c.off c.n (ba c.path) _ _ h G hb sp).mono fun e w' hh => RDid.ans hh (bare_cut _ _ _)
  · intro hk
    rw [hk]
    refine (rdo_stat w g t c.off c.n (ba c.path) _ _ h G hb sp).mono ?_
    rintro e w' ⟨kf, ⟨k, hf, rfl⟩ | ⟨a, hf, rfl⟩⟩
    · have hd : doStat t c.path = (errA k, t) := by unfold doStat; rw [show find t c.path = .error k from hf]
      rw [hd]
      exact RAns.quiet h kf
    · have hd : doStat t c.path = (⟨0, (t a).kind, (t a).data.length + (t a).entries.length, (t a).links, [], []⟩, t) := by unfold doStat; rw [show find t c.path = .ok a from hf]
      rw [hd]
      exact ⟨none, 0, 0, none, 0, 0, rfl, ⟨rfl, rfl, Rd.nil, Strs.nil⟩, Keep.mono kf (fun _ _ h => h.elim), h.kept kf, (fun _ h => nomatch h), fun _ h => nomatch h⟩
  · intro hk
    rw [hk]
    exact rdo_list w g t c.off c.n (ba c.path) _ _ h G hb sp
  · intro hk
    refine (rdo_sync w g c.kind c.off c.n _ _ _ hk).mono ?_
    rintro e w' ⟨rfl, kf⟩
    exact RAns.quiet (k := 0) h kf
  · rintro (hk | hk)
    · refine (rdo_low w g c.kind c.off c.n _ _ _ hk).mono ?_
      rintro e w' ⟨rfl, kf⟩
      exact RAns.quiet (k := 1) h kf
    · refine (rdo_high w g c.kind c.off c.n _ _ _ hk).mono ?_
      rintro e w' ⟨rfl, kf⟩
      exact RAns.quiet (k := 1) h kf
theorem rdoT_errA {t : Tr} {c : TCall} : (doT t c).1.err ≠ 0 → (doT t c).1 = errA (doT t c).1.err := by
  refine doT_cases t c (fun r => r.1.err ≠ 0 → r.1 = errA r.1.err) ?_ ?_ ?_ ?_ ?_ ?_ ?_ ?_ ?_ ?_ ?_ ?_ ?_
  all_goals intro _
  all_goals (try unfold doMake)
  all_goals (try unfold doRmdir)
  all_goals (try unfold doUnlink)
  all_goals (try unfold doLink)
  all_goals (try unfold doRename)
  all_goals (try unfold doWrite)
  all_goals (try unfold doRead)
  all_goals (try unfold doCut)
  all_goals (try unfold doStat)
  all_goals (try unfold doList)
  all_goals (repeat' split)
  all_goals (first | exact fun _ => rfl | exact fun h => absurd rfl h)
/-- Bytes, and texts, that are read lie in no block that holds none. -/
theorem Rd.keepNo {w w' : World} {A : Option Addr} {l : List UInt8} {g : Nat} {cs : Array Value} {t : TypeId} {fr : Nat × Nat} (h : Rd w w.heap.size A l) (hg : w.heap[g]? = some (.cells cs t fr)) (hno : ∀ x ∈ cs.toList, ∀ z, x ≠ .int .u8 z) (k : Keep (fun i => i = g) w w') : Rd w' w'.heap.size A l := fun j b hj => by
  have hlt : j < l.length := (List.getElem?_eq_some_iff.1 hj).1
  have hfar := h.far hg hno j hlt
  obtain ⟨a, rfl, hb, hc⟩ := h j b hj
  have hs := k.size
  exact ⟨a, rfl, by omega, (k.cell (by rw [block_add]; exact hb) (by rw [block_add]; exact hfar a rfl)).trans hc⟩
theorem Strs.keepNo {w w' : World} {A : Option Addr} {l : List ByteArray} {g : Nat} {cs : Array Value} {t : TypeId} {fr : Nat × Nat} (h : Strs w w.heap.size A l) (hg : w.heap[g]? = some (.cells cs t fr)) (hno : ∀ x ∈ cs.toList, ∀ z, x ≠ .string z) (k : Keep (fun i => i = g) w w') : Strs w' w'.heap.size A l := fun j b hj => by
  obtain ⟨q, o, rfl, hb, hc⟩ := h j b hj
  have hs := k.size
  refine ⟨q, o, rfl, by omega, (k.cell (p := ⟨q, o + j, none⟩) hb ?_).trans hc⟩
  rintro (e : q = g)
  subst e
  simp only [World.cell?, hg] at hc
  exact hno _ (by simpa using Array.mem_of_getElem? hc) _ rfl
set_option maxRecDepth 100000 in
set_option maxHeartbeats 4000000 in
theorem rDo_any (w : World) (g : Nat) (t : Tr) (c : TCall) (Ad : Option Addr) (kd cd : Nat) (hkd : kd = c.data.length) (hkb : kd ≤ 1000000) (hdr : Rd w w.heap.size Ad c.data) (h : RefAt Zp w g t) (G : Good t) (hb : Small t) (hp : c.path.length ≤ 1000) (ho : c.other.length ≤ 1000) :
    Calls Tryd.prog 7 #[.pointer (some ⟨g, 0, none⟩), .agg #[.int .i64 c.kind, .string (ba c.path), .string (ba c.other), .int .i64 c.off, .int .i64 c.n, .slice Ad kd cd]] w (RDone Zp g (doT t c) w) := by
  have HGL := Lib.hid h.lt
  obtain ⟨b, hbb⟩ : ∃ b, w.heap.size = b := ⟨_, rfl⟩
  obtain ⟨W, hW⟩ : ∃ W, ((w.alloc (.cells #[.int .i64 c.kind, .string (ba c.path), .string (ba c.other), .int .i64 c.off, .int .i64 c.n, .slice Ad kd cd] 28)).alloc (.cells #[.int .i64 0, .int .i64 0, .int .i64 0, .int .i64 0, .slice none 0 0, .slice none 0 0] 33)) = W := ⟨_, rfl⟩
  have kW : KF w W := by rw [← hW]; exact ((KF.refl w).alloc _).alloc _
  have HK := Lib.hid kW
  have HSZ : Hid (W.heap.size = b + 1 + 1) := Lib.hid (by rw [← hW, ← hbb]; simp)
  have HCL : Hid (Six6 W b 28 (.int .i64 c.kind) (.string (ba c.path)) (.string (ba c.other)) (.int .i64 c.off) (.int .i64 c.n) (.slice Ad kd cd)) := Lib.hid (by
    unfold Six6
    rw [← hW, ← hbb, Below.heap_alloc _ _ _ (by simp)]
    exact heap_alloc_new w _)
  have HRS : Hid (Six6 W (b + 1) 33 (.int .i64 0) (.int .i64 0) (.int .i64 0) (.int .i64 0) (.slice none 0 0) (.slice none 0 0)) := Lib.hid (by
    unfold Six6
    have := heap_alloc_new (w.alloc (.cells #[.int .i64 c.kind, .string (ba c.path), .string (ba c.other), .int .i64 c.off, .int .i64 c.n, .slice Ad kd cd] 28)) (.cells #[.int .i64 0, .int .i64 0, .int .i64 0, .int .i64 0, .slice none 0 0, .slice none 0 0] 33)
    rw [World.size_alloc, hbb] at this
    rw [← hW]
    exact this)
  have HDO := Lib.hid (rdo_any W g t c Ad kd cd hkd hkb ((hdr.keepF kW (Nat.le_refl _)).more kW.size) (h.kept kW) G hb hp ho)
  have HER := Lib.hid (rdoT_errA (t := t) (c := c))
  have HW := Lib.hid hW
  have HB := Lib.hid hbb
  clear hW hbb kW h G hb hp ho hdr hkd hkb
  generalize doT t c = r at *
  generalize ba c.path = P at *
  generalize ba c.other = O at *
  obtain ⟨q0, q1, q2, q3, q4, q5⟩ := HCL.out.cells
  go_enter Tryd.func7, Tryd.ntmps7
  go_upto_region 1 with fail
  rw [HW.out, HB.out]
  clear HW
  go_wp2_with fail
  refine HDO.out.mono ?_
  rintro e w1 ⟨A1, n1, c1, A2, n2, c2, rfl, ⟨h1, h2, h3, h4⟩, k1, R1, hz1⟩
  have HZ1 := Lib.hid hz1
  clear hz1
  have HRS1 := Lib.hid (HRS.out.kept k1 (by have := HB.out; have := HGL.out; omega))
  have HK1 : Hid (Keep (fun i => i = g) w w1) := Lib.hid (Keep.trans (Keep.mono HK.out (fun _ _ h => h.elim)) k1 (fun _ _ h => h))
  obtain ⟨ab, hab⟩ : ∃ ab, w1.heap.size = ab := ⟨_, rfl⟩
  obtain ⟨w2, hw2⟩ : ∃ X, w1.alloc (.cells #[.int .i64 0, .int .i64 (r.1.kind : Int), .int .i64 (r.1.size : Int), .int .i64 (r.1.links : Int), .slice A1 n1 c1, .slice A2 n2 c2] 33) = X := ⟨_, rfl⟩
  have k2 : KF w1 w2 := by rw [← hw2]; exact (KF.refl w1).alloc _
  have HA2 : Hid (Six6 w2 ab 33 (.int .i64 0) (.int .i64 (r.1.kind : Int)) (.int .i64 (r.1.size : Int)) (.int .i64 (r.1.links : Int)) (.slice A1 n1 c1) (.slice A2 n2 c2)) := Lib.hid (by
    unfold Six6
    rw [← hw2, ← hab]
    exact heap_alloc_new w1 _)
  have HRS2 := Lib.hid (HRS1.out.kept k2 (fun h => h))
  have HK2 : Hid (Keep (fun i => i = g) w w2) := Lib.hid (Keep.trans HK1.out k2 (fun _ _ h => h.elim))
  have HR2 := Lib.hid (R1.kept k2)
  have HL := Lib.hid (And.intro h1 h2)
  have HD3 := Lib.hid ((h3.keepF k2 (Nat.le_refl _)).more k2.size)
  have HD4 := Lib.hid (h4.kept k2)
  have HW2 := Lib.hid hw2
  have HAB := Lib.hid hab
  clear hw2 hab k1 k2 R1 h1 h2 h3 h4 HRS HRS1 HK HK1 HCL q0 q1 q2 q3 q4 q5
  go_upto_region 2 with fail
  rw [HW2.out, HAB.out]
  clear HW2 HDO
  obtain ⟨q0, q1, q2, q3, q4, q5⟩ := HA2.out.cells
  obtain ⟨r0, r1, r2, r3, r4, r5⟩ := HRS2.out.cells
  have z0 := HRS2.out.free 0
  have z1 := HRS2.out.free 1
  have z2 := HRS2.out.free 2
  have z3 := HRS2.out.free 3
  have z4 := HRS2.out.free 4
  have z5 := HRS2.out.free 5
  by_cases he : r.1.err = 0
  · have heb : ((r.1.err : Int) != 0) = false := by rw [he]; rfl
    have PUT := Lib.hid (HRS2.out.put (.int .i64 0) (.int .i64 (r.1.kind : Int)) (.int .i64 (r.1.size : Int)) (.int .i64 (r.1.links : Int)) (.slice A1 n1 c1) (.slice A2 n2 c2))
    have HE := Lib.hid he
    clear he
    go_wp2_with fail
    obtain ⟨e1, e2⟩ := PUT.out
    obtain ⟨d0, d1, d2, d3, d4, d5⟩ := e1.cells
    clear PUT q0 q1 q2 q3 q4 q5 r0 r1 r2 r3 r4 r5 z0 z1 z2 z3 z4 z5
    refine bodyPost_ret (v := .agg #[.int .i64 0, .int .i64 (r.1.kind : Int), .int .i64 (r.1.size : Int), .int .i64 (r.1.links : Int), .slice A1 n1 c1, .slice A2 n2 c2]) (by simp [results, Tryd.results7, go_sem, d0, d1, d2, d3, d4, d5]) rfl ?_
    have hle := HB.out
    have kE : Keep (fun i => i = g) w _ := Keep.trans HK2.out e2 (fun i hi (h : i = b + 1) => by omega)
    refine ⟨A1, c1, A2, c2, by rw [HE.out, HL.out.1, HL.out.2]; rfl, HD3.out.keepNo HRS2.out (by simp) e2, HD4.out.keepNo HRS2.out (by simp) e2, kE, HR2.out.keepFar HRS2.out (by simp) (by simp) e2 (by have := HGL.out; omega), HZ1.out.1, HZ1.out.2⟩
  · have heb : ((r.1.err : Int) != 0) = true := by simp; omega
    have PUT := Lib.hid (HRS2.out.put (.int .i64 (r.1.err : Int)) (.int .i64 0) (.int .i64 0) (.int .i64 0) (.slice none 0 0) (.slice none 0 0))
    have HE := Lib.hid (HER.out he)
    clear he
    go_wp2_with fail
    obtain ⟨e1, e2⟩ := PUT.out
    obtain ⟨d0, d1, d2, d3, d4, d5⟩ := e1.cells
    clear PUT q0 q1 q2 q3 q4 q5 r0 r1 r2 r3 r4 r5 z0 z1 z2 z3 z4 z5
    refine bodyPost_ret (v := .agg #[.int .i64 (r.1.err : Int), .int .i64 0, .int .i64 0, .int .i64 0, .slice none 0 0, .slice none 0 0]) (by simp [results, Tryd.results7, go_sem, d0, d1, d2, d3, d4, d5]) rfl ?_
    have hle := HB.out
    have kE : Keep (fun i => i = g) w _ := Keep.trans HK2.out e2 (fun i hi (h : i = b + 1) => by omega)
    have hz := HE.out
    refine ⟨none, 0, none, 0, ?_, ?_, ?_, kE, HR2.out.keepFar HRS2.out (by simp) (by simp) e2 (by have := HGL.out; omega), (fun _ h => nomatch h), fun _ h => nomatch h⟩
    · rw [hz]; rfl
    · rw [hz]; exact Rd.nil
    · rw [hz]; exact Strs.nil
end Go.Proofs.YtlkiaghpdjbfeaaDoor

namespace Go.Proofs.YtlkiaghpdjbfeaaDoor
open Go.RowKit

theorem doesRef : DoesRef := fun w g t c Ad kd cd h1 h2 h3 h4 h5 h6 h7 h8 => rDo_any w g t c Ad kd cd h1 h2 h3 h4 h5 h6 h7 h8
end Go.Proofs.YtlkiaghpdjbfeaaDoor
