/-
  WALKS of check.Wrap and check.Unwrap.
-/
import Derived.Test.YtklpebfkgdklmabDoorSum
import Derived.Test.YtklpebfkgdklmabDoorOctR
import Derived.Test.YtklpebfkgdklmabDoorConcat
import Derived.Deep.CutRange
import Derived.Deep.DeepCutAuto
import Derived.Deep.QuietTactic
import Derived.BigQuiet
import Derived.Deep.DrawnRows
import Derived.Deep.RegionWith
namespace Go.Proofs.YtklpebfkgdklmabDoor
open Go.RowKit
attribute [local go_sem ↓] Go.wp_at_zero Go.wp_at_succ

theorem ws_nil {g i n c : Nat} (h : WS g (.slice none n c) i) : i = g := by
  rcases h with h | h
  · exact h
  · cases h
theorem sz4 : sz 4 = 4 := by decide
set_option maxHeartbeats 400000 in
theorem wrap_any (A : Option Addr) (l : List UInt8) (c : Nat) (w : World) (hb : l.length ≤ 35184372088832) (ht : Tab w) (B : Nat) (hr : Rd w B A l) (hB : B ≤ w.heap.size) :
    Calls Tryd.prog 34 #[.slice A l.length c] w (Fresh w (l.length + 4) (l ++ be (crc l) 4)) := by
  have hcl := crc_lt l
  obtain ⟨x, hx⟩ : ∃ x, crc l = x := ⟨_, rfl⟩
  have w0 : Wr (w.alloc (.cells #[.slice none 0 0] 64)) w.heap.size (.slice none 0 0) [] := ⟨heap_alloc_new w _, (Own.nil 5 w).alloc _⟩
  have S := sum_is (c := c) (w := w.alloc (.cells #[.slice none 0 0] 64)) rfl (by omega) (ht.kept ((Keep.refl (fun _ => False) w).alloc _) (fun h => h)) (hr.alloc hB _) hx
  have hx64 : x < 18446744073709551616 := by omega
  have N0 := number_any w.heap.size (.slice none 0 0) [] x 4 _ w0 hx64 (by simp)
  rw [sz4, List.nil_append] at N0
  have N := Lib.hid N0
  have HX := Lib.hid hx
  clear N0 hx w0
  go_enter Tryd.func34, Tryd.ntmps34
  go_wp2_with fail
  refine S.out.mono ?_
  rintro e w' ⟨rfl, rfl⟩
  go_wp2_with fail
  refine N.out.mono ?_
  rintro e w2 ⟨rfl, v2, hw2, hk2, _⟩
  have k2 : Keep (fun _ => False) w w2 := ((Keep.refl (fun _ => False) w).alloc _).trans hk2 (fun i hi h => by have := ws_nil h; omega)
  go_wp2_with fail
  refine (out_any w.heap.size v2 _ w2 hw2 (by simp [be])).mono ?_
  rintro e w3 ⟨A3, c3, rfl, o3, v3, k3⟩
  have k3' := k2.trans k3 (fun _ _ h => h)
  go_wp2_with fail
  refine (concat_two w3.heap.size A A3 l (be x 4) c c3 _ (by simp) (by simp) w3.heap.size (((hr.keepF k3' hB).more (Nat.le_trans hB k3'.size)).alloc (Nat.le_refl _) _) (o3.rd.alloc (Nat.le_refl _) _) (by simp) (by rw [be_length]; omega)).mono ?_
  rintro e w5 ⟨A5, c5, rfl, o5, v5, k5⟩
  go_wp2
  go_ret
  rw [be_length] at *
  rw [HX.out]
  have hs := k3'.size
  exact ⟨A5, c5, rfl, o5, v5.older (by simp; omega), (k3'.alloc (.cells #[.slice A l.length c, .slice A3 4 c3] 24)).trans k5 (fun _ _ h => h)⟩
end Go.Proofs.YtklpebfkgdklmabDoor
