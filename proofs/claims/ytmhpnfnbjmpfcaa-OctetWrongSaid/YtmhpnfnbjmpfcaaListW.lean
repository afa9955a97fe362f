/-
  WALKS: octet.List of a reader that has gone wrong, at bytes by the law's own closure.
-/
import Derived.Test.YtmhpnfnbjmpfcaaOctB
import Derived.RangeFuncNested
import Derived.RangeFuncWrites
import Derived.RangeFuncBound
import Derived.RangeFuncCalls
import Derived.RangeFuncLeaves
import Derived.Shelf.Abstract
import Derived.Shelf.RegionOpen
import Derived.OwnWalkIn
import Derived.TacticsInMore
import Derived.LoopNIn
import Derived.LoopIn
namespace Go.Proofs.Ytmhpnfnbjmpfcaa
open Go.RowKit Go.Shelf
attribute [local go_sem] Oper.semAt_some
theorem RdE.alloc {w : World} {g : Nat} {s : List UInt8 × Bool} (h : RdE w g s) (o : Obj) : RdE (w.alloc o) g s := h.kept ((Keep.refl _ w).alloc o)
theorem cnt_wrong (most : Int) : cntV most ([], true) = 0 ∧ cntS most ([], true) = ([], true) := by
  have h : cntBad most ([], true) := .inl (by simp [tk, tkB])
  unfold cntV cntS
  rw [if_pos h, if_pos h]
  exact ⟨rfl, rfl⟩
/-- The iterator that things gives: its three captured variables lie in new blocks. -/
def iterOf (B : Nat) : Value := .func (.func 26) #[] #[.pointer (some ⟨B + 1, 0, none⟩), .pointer (some ⟨B + 1 + 1, 0, none⟩), .pointer (some ⟨B, 0, none⟩)]
theorem things_any (g : Nat) (n : Int) (fn : Fn) (cs : Array Value) (w : World) :
    Calls Try.prog 22 #[.pointer (some ⟨g, 0, none⟩), .int .i64 n, .func fn #[] cs] w fun e w' => e = .returned (iterOf w.heap.size) ∧ ((w.alloc (.cells #[.pointer (some ⟨g, 0, none⟩)] 26)).alloc (.cells #[.int .i64 n] 3)).alloc (.cells #[.func fn #[] cs] 34) = w' := by
  go_enter Try.func22, Try.ntmps22
  go_wp2
  go_ret
  exact ⟨rfl, rfl⟩
def NoBytes (xs : List UInt8) : Prop := xs = []
def Never (_ : List UInt8) : Prop := False
def Any2 (_ _ : World) : Prop := True
abbrev encB (b : UInt8) : Array Value := #[.int .u8 b.toNat]
set_option maxRecDepth 100000 in
theorem iter_none (F : Fence) (n : Nat) (hF : F.fn 26) (hro : F.round = none) (B : Nat) (w0 : World) (hB : B + 1 + 1 < w0.heap.size) (hc : w0.cell? ⟨B + 1, 0, none⟩ = some (.int .i64 0)) :
    SeqStopsK F n Try.prog 26 #[.pointer (some ⟨B + 1, 0, none⟩), .pointer (some ⟨B + 1 + 1, 0, none⟩), .pointer (some ⟨B, 0, none⟩)] encB Any2 NoBytes Never 0 w0 := by
  intro l J Jx W hW _ _ _ h0
  have hc1 : W.cell? ⟨B + 1, 0, none⟩ = some (.int .i64 0) := (hW.cell (p := ⟨B + 1, 0, none⟩) (by show B + 1 < _; omega)).trans hc
  refine callsIn_of_wp Try.func26 rfl hF ?_ hro
  simp only [Try.ntmps26, List.size_toArray, List.length_cons, List.length_nil, Nat.reduceAdd, Nat.reduceSub, Array.replicate_succ, Array.replicate_zero, List.push_toArray, List.append_toArray, List.nil_append, List.cons_append]
  gi_wp2
  gi_loopw [7] (fun i wr => i = .int .i64 0 ∧ wr = W) (fun _ _ => 0)
  case atStart => exact ⟨rfl, rfl⟩
  case round =>
    obtain ⟨rfl, rfl⟩ := hrel
    gi_wp2
    go_end0
    exact ⟨⟨_, rfl⟩, .inl ⟨[], rfl, h0⟩⟩

theorem Keep.of_belowB {a w : World} {B : Nat} (h : Below B a w) : Keep (fun i => B ≤ i) a w := ⟨h.os, h.tape, h.output, h.size, fun i _ hn => h.block i (by omega)⟩
set_option maxRecDepth 100000 in
set_option maxHeartbeats 1000000 in
theorem list_wrong (g : Nat) (most : Int) (w : World) (h : RdE w g ([], true)) :
    Calls Try.prog 8 #[.pointer (some ⟨g, 0, none⟩), .int .i64 most, .func (.func 9) #[] #[]] w fun e w' => e = .returned (.slice none 0 0) ∧ RdE w' g ([], true) ∧ Keep (fun k => k = g) w w' := by
  have C0 := count_e g ([], true) most _ (h.alloc (.cells #[.slice none 0 0] 22)) (by simp)
  rw [(cnt_wrong most).1, (cnt_wrong most).2] at C0
  have C := Lib.hid C0
  clear C0
  have hglt := h.lt
  refine (callsIn_wide (n := 3)).1 ?_
  refine callsIn_of_wp_marks Try.func8 rfl trivial ?_ rfl
  simp only [Try.ntmps8, List.size_toArray, List.length_cons, List.length_nil, Nat.reduceAdd, Nat.reduceSub, Array.replicate_succ, Array.replicate_zero, List.push_toArray, List.append_toArray, List.nil_append, List.cons_append]
  gi_wp2_with (first
    | (refine ⟨trivial, ?_⟩; gi_at_call 21; refine (callsIn_wide.2 C.out).mono ?_; rintro e w1 ⟨rfl, hr, hk⟩)
    | (refine ⟨trivial, ?_⟩; gi_at_call 22; refine (callsIn_wide.2 (things_any g _ _ _ w1)).mono ?_; rintro e w2 ⟨rfl, rfl⟩))
  have hz : (w.alloc (.cells #[.slice none 0 0] 22)).heap.size = w.heap.size + 1 := by simp
  have hbox1 : w1.cell? ⟨w.heap.size, 0, none⟩ = some (.slice none 0 0) := (hk.cell (p := ⟨w.heap.size, 0, none⟩) (by rw [hz]; exact Nat.lt_succ_self _) (fun h : w.heap.size = g => by omega)).trans (by simp)
  have hsz1 : w.heap.size + 1 ≤ w1.heap.size := by have := hk.size; rw [hz] at this; exact this
  obtain ⟨W0, hW0⟩ : ∃ W0, (((w1.alloc (.cells #[.pointer (some ⟨g, 0, none⟩)] 26)).alloc (.cells #[.int .i64 0] 3)).alloc (.cells #[.func (.func 9) #[] #[]] 34)) = W0 := ⟨_, rfl⟩
  have hk0 : Keep (fun _ => False) w1 W0 := by rw [← hW0]; exact (((Keep.refl _ w1).alloc _).alloc _).alloc _
  have hz0 : W0.heap.size = w1.heap.size + 1 + 1 + 1 := by rw [← hW0]; simp
  have hc0 : W0.cell? ⟨w1.heap.size + 1, 0, none⟩ = some (.int .i64 0) := by rw [← hW0, World.cell?_alloc_past, World.cell?_alloc_at] <;> simp
  rw [hW0]
  refine wpIn_rangeFunc_ownG rfl (by omega) (gf := 26) (lb := #[.pointer (some ⟨w1.heap.size + 1, 0, none⟩), .pointer (some ⟨w1.heap.size + 1 + 1, 0, none⟩), .pointer (some ⟨w1.heap.size, 0, none⟩)]) rfl trivial (enters_of Try.func26 (by kernel_rfl) rfl)
    (iter_none Fence.wide (3 - 1) trivial rfl w1.heap.size W0 (by omega) hc0) (fun _ _ => trivial) (fun _ _ _ _ _ _ _ _ => trivial) (Below.refl _ _) (fun _ => rfl)
    (fun _ W => Below W0.heap.size W0 W) (fun _ _ _ => False) (ownFrom_below (Nat.le_refl _) (Nat.le_refl _)) (fun _ _ _ _ _ hs _ _ => hs) (Below.refl _ _)
    (fun x => { tmps := #[.pointer (some ⟨g, 0, none⟩), .int .i64 most, .func (.func 9) #[] #[], undef, undef, undef, .slice none 0 0, .pointer (some ⟨w.heap.size, 0, none⟩), .int .u8 x.toNat, .pointer (some ⟨g, 0, none⟩), .pointer (some ⟨g, 0, none⟩), .int .i64 most, .int .i64 0, .func (.func 9) #[] #[], iterOf w1.heap.size, .int .u8 x.toNat, undef, undef, undef, undef, undef, undef, undef, undef, undef], defers := [] }) ?assign ?body ?done ?stop
  case assign =>
    intro l x W K hK
    gi_wp2
    exact hK
  case body => exact fun l pre x W _ hl => absurd hl (by omega)
  case stop => exact fun D c pre W _ h _ _ => h.elim
  case done =>
    rintro D xs W hD _ hB hK
    have hkW : Keep (fun _ => False) w1 W := hk0.trans (Keep.of_below hB (fun _ => False)) (fun _ _ h => h)
    obtain ⟨A2, c2, hr2⟩ := hr.kept hkW
    have hc1 := hr2.cell1
    have hbox : W.cell? ⟨w.heap.size, 0, none⟩ = some (.slice none 0 0) := (hkW.cell (p := ⟨w.heap.size, 0, none⟩) (by show w.heap.size < _; omega) (fun h => h)).trans hbox1
    simp only at hc1
    gi_wp2
    refine ⟨by simp, .inl ⟨_, _, rfl, run_takeDeferred hK, ?_⟩⟩
    have hkF : Keep (fun _ => False) w1 (W.putObj D (.deferred none)) := hkW.trans (Keep.of_belowB (belowK_b (n₀ := w1.heap.size) (w := w1) (Nat.le_refl _) W D _ _ (by omega) hK rfl rfl)) (fun i hi h => by omega)
    refine ⟨_, results_tmp rfl _ _ _, rfl, hr.kept hkF, ?_⟩
    exact (((Keep.refl (fun k => k = g) w).alloc _).trans hk (fun _ _ h => h)).trans hkF (fun _ _ h => h.elim)
end Go.Proofs.Ytmhpnfnbjmpfcaa
