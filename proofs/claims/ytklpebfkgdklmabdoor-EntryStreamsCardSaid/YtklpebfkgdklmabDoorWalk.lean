/-
  WALKS: entry.Walk, whose iterator asks a function that is handed in: what it goes through, by whatever state the caller keeps.
-/
import Derived.Test.YtklpebfkgdklmabDoorEnt
import Derived.Test.YtklpebfkgdklmabDoorRange2
import Derived.Shelf.Abstract
import Derived.Shelf.RegionOpen
import Derived.OwnWalkIn
import Derived.TacticsInMore
import Derived.LoopNIn
import Derived.LoopIn
namespace Go.Proofs.YtklpebfkgdklmabDoor
open Go.RowKit Go.Shelf
attribute [local go_sem] Oper.semAt_some

/-- What is gone through from an address back. -/
def walkL (rd : Int → Option TLog) (z : Int) : List (Int × TLog) :=
  if h : z < 0 then [] else
    match rd z with
    | none => []
    | some x => (z, x) :: (if h2 : z ≤ x.back then [] else walkL rd x.back)
termination_by (z + 1).toNat
theorem walkL_neg {rd : Int → Option TLog} {z : Int} (h : z < 0) : walkL rd z = [] := by rw [walkL, dif_pos h]
theorem walkL_none {rd : Int → Option TLog} {z : Int} (h : ¬ z < 0) (hr : rd z = none) : walkL rd z = [] := by rw [walkL, dif_neg h, hr]
theorem walkL_some {rd : Int → Option TLog} {z : Int} {x : TLog} (h : ¬ z < 0) (hr : rd z = some x) : walkL rd z = (z, x) :: (if z ≤ x.back then [] else walkL rd x.back) := by
  rw [walkL, dif_neg h, hr]
  simp only
  split <;> rfl
/-- A step: the address, the entry, the block that the iterator's own entry lies in. -/
abbrev Stp := Int × TLog × Nat
def told (pre : List Stp) : List (Int × TLog) := pre.map fun p => (p.1, p.2.1)
theorem told_snoc (pre : List Stp) (p : Stp) : told (pre ++ [p]) = told pre ++ [(p.1, p.2.1)] := by simp [told]
/-- The iterator's own entry. -/
def OwnX (b : Nat) (p : Stp) (X : World) : Prop := b ≤ p.2.2 ∧ Lg X p.2.2 (.int .i64 p.2.1.kind) (.int .i64 p.2.1.client) (.int .i64 p.2.1.birth) (.int .i64 p.2.1.number) (.int .i64 p.2.1.stream) (.int .i64 p.2.1.back) (.slice none 0 0)
structure WI (rd : Int → Option TLog) (at_ : Int) (b : Nat) (S : Nat → World → Prop) (pre : List Stp) (X : World) : Prop where
  told : ∃ rest, walkL rd at_ = told pre ++ rest
  st : S pre.length X
  last : ∀ p, pre.getLast? = some p → OwnX b p X
  size : b ≤ X.heap.size
structure WM (rd : Int → Option TLog) (at_ : Int) (b : Nat) (S : Nat → World → Prop) (pre : List Stp) (p : Stp) (X : World) : Prop where
  told : ∃ rest, walkL rd at_ = Go.Proofs.YtklpebfkgdklmabDoor.told pre ++ (p.1, p.2.1) :: rest
  st : S pre.length X
  own : OwnX b p X
  size : b ≤ X.heap.size
def WD (rd : Int → Option TLog) (at_ : Int) (S : Nat → World → Prop) (pre : List Stp) (X : World) : Prop := walkL rd at_ = told pre ∧ S pre.length X
theorem Lg.stands {b g : Nat} {v0 v1 v2 v3 v4 v5 v6 : Value} : Stands b (fun X => Lg X g v0 v1 v2 v3 v4 v5 v6) := fun X i o o' hi ho hc h => by
  refine h.kept (keep_put X i o') ?_
  rintro rfl
  have := h.block
  rw [ho] at this
  injection this with this
  rw [this] at hc
  cases hc
theorem WI.stands {rd : Int → Option TLog} {at_ : Int} {b : Nat} {S : Nat → World → Prop} {pre : List Stp} (hS : ∀ k, Stands b (S k)) : Stands b (WI rd at_ b S pre) := fun X i o o' hi ho hc h =>
  ⟨h.told, hS _ X i o o' hi ho hc h.st, fun p hp => ⟨(h.last p hp).1, Lg.stands X i o o' hi ho hc (h.last p hp).2⟩, by rw [World.putObj_size]; exact h.size⟩
theorem WM.stands {rd : Int → Option TLog} {at_ : Int} {b : Nat} {S : Nat → World → Prop} {pre : List Stp} {p : Stp} (hS : ∀ k, Stands b (S k)) : Stands b (WM rd at_ b S pre p) := fun X i o o' hi ho hc h =>
  ⟨h.told, hS _ X i o o' hi ho hc h.st, ⟨h.own.1, Lg.stands X i o o' hi ho hc h.own.2⟩, by rw [World.putObj_size]; exact h.size⟩
theorem WD.stands {rd : Int → Option TLog} {at_ : Int} {b : Nat} {S : Nat → World → Prop} {pre : List Stp} (hS : ∀ k, Stands b (S k)) : Stands b (WD rd at_ S pre) := fun X i o o' hi ho hc h =>
  ⟨h.1, hS _ X i o o' hi ho hc h.2⟩
theorem told_nil {pre : List Stp} (h : told pre = []) : pre = [] := by simpa [told] using h
theorem told_length (pre : List Stp) : (told pre).length = pre.length := by simp [told]
/-- What reading an address gives. -/
def Reads (rd : Int → Option TLog) (z : Int) (X : World) (e : Ending) (Y : World) : Prop :=
  KF X Y ∧ ((∃ x, rd z = some x ∧ e = .returned (.tuple #[.agg (ecells x none 0 0), .bool true])) ∨ (rd z = none ∧ e = .returned (.tuple #[.agg #[.int .i64 0, .int .i64 0, .int .i64 0, .int .i64 0, .int .i64 0, .int .i64 0, .slice none 0 0], .bool false])))
set_option maxRecDepth 100000 in
set_option maxHeartbeats 1000000 in
theorem iter_walk (rd : Int → Option TLog) (at_ : Int) (b : Nat) (S : Nat → World → Prop) (B : Nat) (rf : Nat) (rcaps : Array Value) (eF : ∀ args W, (callFunc rf args).run Tryd.prog W = .ok (.enter rf args) W)
    (hSk : ∀ k X Y, S k X → KF X Y → S k Y) (hSa : ∀ k X, S k X → X.heap[B]? = some (.cells #[.int .i64 at_] 3 (0, 0))) (hSr : ∀ k X, S k X → ∃ t, X.heap[B + 1]? = some (.cells #[.func (.func rf) #[] rcaps] t (0, 0)))
    (hrd : ∀ k X z, 0 ≤ z → S k X → Calls Tryd.prog rf (#[.int .i64 z] ++ rcaps) X (Reads rd z X)) (l : Nat) (BK : World → Prop) (hBK : ∀ X Y, BK X → KeepsFrom b X Y → BK Y)
    (hY : ∀ pre p X, WM rd at_ b S pre p X → BK X → YieldAt Fence.wide (3 - 1 - 1) Tryd.prog l #[.int .i64 p.1, .agg (ecells p.2.1 none 0 0)] X fun e Y => e = .returned (.bool true) ∧ WI rd at_ b S (pre ++ [p]) Y ∧ BK Y)
    (W : World) (h0 : WI rd at_ b S [] W) (hb : BK W) :
    CallsIn Fence.wide (3 - 1) Tryd.prog 26 #[.func (.yield l) #[] #[], .pointer (some ⟨B, 0, none⟩), .pointer (some ⟨B + 1, 0, none⟩)] W fun e Y => (∃ v, e = .returned v) ∧ BK Y ∧ ∃ xs, WD rd at_ S xs Y := by
  have hcA : W.cell? ⟨B, 0, none⟩ = some (.int .i64 at_) := by simp [World.cell?, hSa _ _ h0.st]
  refine callsIn_of_wp Tryd.func26 rfl trivial ?_ rfl
  simp only [Tryd.ntmps26, List.size_toArray, List.length_cons, List.length_nil, Nat.reduceAdd, Nat.reduceSub, Array.replicate_succ, Array.replicate_zero, List.push_toArray, List.append_toArray, List.nil_append, List.cons_append]
  gi_wp2
  gi_loopw [4] (fun h wr => ∃ (pre : List Stp) (z : Int), h = .int .i64 z ∧ walkL rd at_ = told pre ++ walkL rd z ∧ WI rd at_ b S pre wr ∧ BK wr) (fun h _ => (intOf h + 1).toNat)
  case atStart => exact ⟨[], at_, rfl, rfl, h0, hb⟩
  case round =>
    obtain ⟨pre, z, rfl, hL, hI, hB⟩ := hrel
    by_cases hz : z < 0
    · have hz' : ¬ (0 ≤ z) := by omega
      gi_wp2
      go_end0
      exact ⟨⟨_, rfl⟩, hB, pre, by rw [hL, walkL_neg hz, List.append_nil], hI.st⟩
    · have hz' : 0 ≤ z := by omega
      obtain ⟨t, hr1⟩ := hSr _ _ hI.st
      have hcR : wr.cell? ⟨B + 1, 0, none⟩ = some (.func (.func rf) #[] rcaps) := by simp [World.cell?, hr1]
      have C := Lib.hid (hrd _ _ z hz' hI.st)
      gi_wp2_with fail
      refine ⟨trivial, (callsIn_wide.2 C.out).mono ?_⟩
      rintro e w1 ⟨k1, ⟨x, hx, rfl⟩ | ⟨hx, rfl⟩⟩
      · clear C
        obtain ⟨w2, hw2⟩ : ∃ w2, w1.alloc (.cells (ecells x none 0 0) 26) = w2 := ⟨_, rfl⟩
        have k2 : KF w1 w2 := by rw [← hw2]; exact (KF.refl _).alloc _
        have P2 : Lg w2 w1.heap.size (.int .i64 x.kind) (.int .i64 x.client) (.int .i64 x.birth) (.int .i64 x.number) (.int .i64 x.stream) (.int .i64 x.back) (.slice none 0 0) := ⟨by rw [← hw2]; exact heap_alloc_new w1 _⟩
        have k02 := KF.trans k1 k2
        have hst := hSk _ _ _ hI.st k02
        have hB2 := hBK _ _ hB (keepsFrom_of k02 (fun i h => h.elim) b)
        have hM : WM rd at_ b S pre (z, x, w1.heap.size) w2 := ⟨⟨_, by rw [hL, walkL_some (by omega) hx]⟩, hst, ⟨Nat.le_trans hI.size k1.size, P2⟩, Nat.le_trans hI.size k02.size⟩
        obtain ⟨fn, tmps, assign, body, hy, hR⟩ := hY pre (z, x, w1.heap.size) w2 hM hB2
        dsimp only at hy
        obtain ⟨p0, p1, p2, p3, p4, p5, p6⟩ := P2.cells
        subst hw2
        gi_wp2
        refine hR.mono ?_
        rintro e w3 ⟨rfl, hI3, hB3⟩
        clear p0 p1 p2 p3 p4 p5 p6 hR hy
        obtain ⟨_, P3⟩ := hI3.last _ List.getLast?_concat
        dsimp only at P3
        obtain ⟨p0, p1, p2, p3, p4, p5, p6⟩ := P3.cells
        have hT : told (pre ++ [(z, x, w1.heap.size)]) = told pre ++ [(z, x)] := told_snoc _ _
        have HL := Lib.hid hL
        clear hL hM P2 hst hB2 k2 k02
        by_cases hbk : z ≤ x.back
        · have HW : Hid (WD rd at_ S (pre ++ [(z, x, w1.heap.size)]) w3) := Lib.hid ⟨by rw [HL.out, walkL_some (by omega) hx, if_pos hbk, hT], hI3.st⟩
          clear hT HL
          gi_wp2
          refine bodyPost_ret (results_none rfl _ _ _) rfl ?_
          exact ⟨⟨_, rfl⟩, hB3, _, HW.out⟩
        · have HW : Hid (walkL rd at_ = told (pre ++ [(z, x, w1.heap.size)]) ++ walkL rd x.back) := Lib.hid (by rw [HL.out, walkL_some (by omega) hx, if_neg hbk, hT, List.append_assoc]; rfl)
          clear hT HL
          gi_wp2
          refine ⟨⟨_, _, rfl, HW.out, hI3, hB3⟩, ?_⟩
          simp only [intOf]
          omega
      · have hst := hSk _ _ _ hI.st k1
        have hB1 := hBK _ _ hB (keepsFrom_of k1 (fun i h => h.elim) b)
        have HW : Hid (walkL rd at_ = told pre) := Lib.hid (by rw [hL, walkL_none (by omega) hx, List.append_nil])
        have hst2 := hSk _ _ _ hst ((KF.refl w1).alloc (.cells #[.int .i64 0, .int .i64 0, .int .i64 0, .int .i64 0, .int .i64 0, .int .i64 0, .slice none 0 0] 26))
        have hB2 := hBK _ _ hB1 (keepsFrom_of ((KF.refl w1).alloc (.cells #[.int .i64 0, .int .i64 0, .int .i64 0, .int .i64 0, .int .i64 0, .int .i64 0, .slice none 0 0] 26)) (fun i h => h.elim) b)
        clear hL C
        gi_wp2
        refine ⟨fun _ h => (by cases h), ?_⟩
        gi_wp2
        refine bodyPost_ret (results_none rfl _ _ _) rfl ?_
        exact ⟨⟨_, rfl⟩, hB2, pre, HW.out, hst2⟩
end Go.Proofs.YtklpebfkgdklmabDoor
