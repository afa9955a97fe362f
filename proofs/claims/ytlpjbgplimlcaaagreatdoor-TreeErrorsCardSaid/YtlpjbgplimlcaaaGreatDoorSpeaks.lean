/-
  speaks: the document's example.
-/
import Derived.Test.YtlpjbgplimlcaaaGreatDoorTreeLaw
namespace Go.Proofs.YtlpjbgplimlcaaaGreatDoor
open Go.RowKit Go.Maps

def sp1 : TCall := ⟨1, [47, 97], [], 0, 0, []⟩
def sp2 : TCall := ⟨3, [47, 97, 47, 98], [], 0, 0, []⟩
def sp3 : TCall := ⟨6, [47, 97], [47, 97, 47, 99], 0, 0, []⟩
theorem sp_err : (doT newT sp1).1.err = 0 ∧ (doT (doT newT sp1).2 sp2).1.err = 0 ∧ (doT (doT (doT newT sp1).2 sp2).2 sp3).1.err = 26 ∧ (nodesOf (doT (doT (doT newT sp1).2 sp2).2 sp3).2).length = 3 := by decide +kernel
theorem CallIn.nil {w : World} {B : Nat} {c : TCall} (hd : c.data = []) (hp : c.path.length ≤ 1000000) (ho : c.other.length ≤ 1000000) : CallIn w B c none 0 0 := ⟨by rw [hd]; rfl, ⟨by omega, hp, ho⟩, by rw [hd]; exact Rd.nil⟩

set_option maxRecDepth 100000 in
set_option maxHeartbeats 8000000 in
theorem speaks_any (w : World) (he : Env w) : Calls Tryz.prog 8 #[] w fun e w' => e = .returned (.bool true) ∧ KF w w' := by
  have HN := Lib.hid (St8.new (KF.refl w) he)
  obtain ⟨e1, e2, e3, e4⟩ := sp_err
  have H1 : Hid (∀ wr L, St8 w wr L 1 newT → Calls Tryz.prog 13 #[.pointer (some ⟨L.tb, 0, none⟩), .agg #[.int .i64 1, .string ⟨#[47, 97]⟩, .string ⟨#[]⟩, .int .i64 0, .int .i64 0, .slice none 0 0]] wr _) := Lib.hid fun wr L h =>
    h.do_ (by omega) sp1 none 0 0 (CallIn.nil rfl (by decide) (by decide)) (fun a h => nomatch h)
  have H2 : Hid (∀ wr L, St8 w wr L 2 (doT newT sp1).2 → Calls Tryz.prog 13 #[.pointer (some ⟨L.tb, 0, none⟩), .agg #[.int .i64 3, .string ⟨#[47, 97, 47, 98]⟩, .string ⟨#[]⟩, .int .i64 0, .int .i64 0, .slice none 0 0]] wr _) := Lib.hid fun wr L h =>
    h.do_ (by omega) sp2 none 0 0 (CallIn.nil rfl (by decide) (by decide)) (fun a h => nomatch h)
  have H3 : Hid (∀ wr L, St8 w wr L 3 (doT (doT newT sp1).2 sp2).2 → Calls Tryz.prog 13 #[.pointer (some ⟨L.tb, 0, none⟩), .agg #[.int .i64 6, .string ⟨#[47, 97]⟩, .string ⟨#[47, 97, 47, 99]⟩, .int .i64 0, .int .i64 0, .slice none 0 0]] wr _) := Lib.hid fun wr L h =>
    h.do_ (by omega) sp3 none 0 0 (CallIn.nil rfl (by decide) (by decide)) (fun a h => nomatch h)
  generalize doT newT sp1 = r1 at *
  generalize doT r1.2 sp2 = r2 at *
  generalize doT r2.2 sp3 = r3 at *
  have z1 : ((r1.1.err : Int) == 0) = true := by rw [e1]; rfl
  have z2 : ((r2.1.err : Int) == 0) = true := by rw [e2]; rfl
  have z3 : ((r3.1.err : Int) == 26) = true := by rw [e3]; rfl
  have E4 := Lib.hid e4
  clear e1 e2 e3 e4
  go_enter Tryz.func8, Tryz.ntmps8
  go_wp2_with fail
  refine HN.out.mono ?_
  rintro e w1 ⟨L, rfl, S1, _, _⟩
  go_wp2_with fail
  refine (H1.out _ _ S1.out).mono ?_
  rintro e w2 ⟨A1, c1, A1', c1', L2, rfl, _, _, S2⟩
  obtain ⟨w2', hw2⟩ : ∃ w', w2.alloc (.cells (ansC r1.1 A1 c1 A1' c1') 36) = w' := ⟨_, rfl⟩
  have k2 : KF (w2.alloc (.cells (ansC r1.1 A1 c1 A1' c1') 36)) w2' := hw2 ▸ KF.refl _
  have q1 := fresh_cell k2 0 rfl
  have T2 := S2.out.st.later (fresh_far k2)
  have n1 : ¬ Foot L2 r1.2 w2.heap.size := S2.out.st.free (Nat.le_refl _)
  have l1 : w2.heap.size < w2'.heap.size := Nat.lt_of_lt_of_le (by simp) k2.size
  have C2 := H2.out _ _ T2
  rw [S2.out.tb] at C2
  have HC2 := Lib.hid C2
  have HW2 := Lib.hid hw2
  clear C2 hw2
  go_upto_region 3 with fail
  rw [HW2.out]
  go_wp2_with fail
  refine HC2.out.mono ?_
  rintro e w3 ⟨A2, c2, A2', c2', L3, rfl, _, _, S3⟩
  obtain ⟨n1', l1', q1'⟩ := S3.out.old l1 n1
  have q1a := (q1' 0).trans q1
  obtain ⟨w3', hw3⟩ : ∃ w', w3.alloc (.cells (ansC r2.1 A2 c2 A2' c2') 36) = w' := ⟨_, rfl⟩
  have k3 : KF (w3.alloc (.cells (ansC r2.1 A2 c2 A2' c2') 36)) w3' := hw3 ▸ KF.refl _
  have q2 := fresh_cell k3 0 rfl
  have q1b := ((fresh_far k3).cell (p := ⟨w2.heap.size, 0, none⟩) l1').trans q1a
  have T3 := S3.out.st.later (fresh_far k3)
  have n2 : ¬ Foot L3 r2.2 w3.heap.size := S3.out.st.free (Nat.le_refl _)
  have l2 : w3.heap.size < w3'.heap.size := Nat.lt_of_lt_of_le (by simp) k3.size
  have C3 := H3.out _ _ T3
  rw [S3.out.tb, S2.out.tb] at C3
  have HC3 := Lib.hid C3
  have HW3 := Lib.hid hw3
  clear C3 hw3 q1 q1' q1a
  go_upto_region 4 with fail
  rw [HW3.out]
  go_wp2_with fail
  refine HC3.out.mono ?_
  rintro e w4 ⟨A3, c3, A3', c3', L4, rfl, _, _, S4⟩
  obtain ⟨_, l1c, q1'⟩ := S4.out.old (Nat.lt_of_lt_of_le l1' (fresh_far k3).size) (b := w2.heap.size) n1'
  obtain ⟨_, l2c, q2'⟩ := S4.out.old l2 n2
  have q1c := (q1' 0).trans q1b
  have q2c := (q2' 0).trans q2
  obtain ⟨w4', hw4⟩ : ∃ w', w4.alloc (.cells (ansC r3.1 A3 c3 A3' c3') 36) = w' := ⟨_, rfl⟩
  have k4 : KF (w4.alloc (.cells (ansC r3.1 A3 c3 A3' c3') 36)) w4' := hw4 ▸ KF.refl _
  have q3 := fresh_cell k4 0 rfl
  have q1d := ((fresh_far k4).cell (p := ⟨w2.heap.size, 0, none⟩) l1c).trans q1c
  have q2d := ((fresh_far k4).cell (p := ⟨w3.heap.size, 0, none⟩) l2c).trans q2c
  have T4 := S4.out.st.later (fresh_far k4)
  have C4 := T4.nodes (by omega)
  rw [S4.out.tb, S3.out.tb, S2.out.tb] at C4
  have HC4 := Lib.hid C4
  have HW4 := Lib.hid hw4
  clear C4 hw4 q1' q2' q1c q2c q1b q2
  go_upto_region 5 with fail
  rw [HW4.out]
  go_wp2_with fail
  refine HC4.out.mono ?_
  rintro e w5 ⟨A5, c5, rfl, hN5, k5⟩
  rw [E4.out]
  go_wp2_with fail
  go_ret
  exact ⟨rfl, KF.trans (KF.trans S4.out.kf (fresh_far k4)) k5⟩
end Go.Proofs.YtlpjbgplimlcaaaGreatDoor
