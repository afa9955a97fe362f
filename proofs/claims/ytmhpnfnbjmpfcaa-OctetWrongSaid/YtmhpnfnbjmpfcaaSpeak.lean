/-
  THE WALK of the example of layer 1's laws.
-/
import Derived.Test.YtmhpnfnbjmpfcaaOctV
import Derived.Test.YtmhpnfnbjmpfcaaRef
namespace Go.Proofs.Ytmhpnfnbjmpfcaa
open Go.RowKit
def saidBytes : List UInt8 := [0, 0, 0, 2, 1, 2]
theorem said_is : be 2 4 ++ [1, 2] = saidBytes := by decide
theorem speaks1_any (w : World) :
    Calls Try.prog 4 #[] w fun e w' => e = .returned (.bool true) ∧ Keep (fun _ => False) w w' := by
  obtain ⟨w0, hw0⟩ : ∃ w0, w.alloc (.cells #[.slice none 0 0] 42) = w0 := ⟨_, rfl⟩
  have hz0 : w0.heap.size = w.heap.size + 1 := by rw [← hw0]; simp
  have hz1 : (w0.alloc (.cells #[.int .u8 1, .int .u8 2] 5)).heap.size = w0.heap.size + 1 := by simp
  have k0 : Keep (fun _ => False) w w0 := by rw [← hw0]; exact (Keep.refl _ w).alloc _
  have k1 := k0.alloc (.cells #[.int .u8 1, .int .u8 2] 5)
  have hwr : Wr (w0.alloc (.cells #[.int .u8 1, .int .u8 2] 5)) w.heap.size (.slice none 0 0) [] := by
    rw [← hw0]
    exact ⟨(Below.heap_alloc _ _ _ (by simp)).trans (heap_alloc_new w _), ((Own.nil 5 w).alloc _).alloc _⟩
  have B0 := wbytes_any w.heap.size (.slice none 0 0) [] [1, 2] (some ⟨w0.heap.size, 0, none⟩) 2 2 _ hwr rfl (by decide) (by decide) (w0.heap.size + 1) (Rd.lit w0 5 (0, 0) [1, 2] #[.int .u8 1, .int .u8 2] rfl) (by rw [hz1]; exact Nat.le_refl _) (by
    rintro a ha (h | h)
    · injection ha with ha
      subst ha
      have h' : w0.heap.size = w.heap.size := h
      omega
    · cases h)
  rw [List.nil_append, said_is, hz0] at B0
  subst hw0
  have C := Lib.hid B0
  clear B0
  clear hz0 hz1 hwr
  go_enter Try.func4, Try.ntmps4
  go_wp2_with fail
  refine C.out.mono ?_
  rintro e w2 ⟨rfl, v2, hw2, hk2, _⟩
  have k2 : Keep (fun _ => False) w w2 := k1.trans hk2 (fun i hi h => by
    rcases h with h | h
    · omega
    · cases h)
  go_wp2_with fail
  refine (out_any w.heap.size v2 _ w2 hw2 (by decide)).mono ?_
  rintro e w3 ⟨A3, c3, rfl, o3, v3, k3⟩
  have k3' := k2.trans k3 (fun _ _ h => h)
  have S := same_is (A1 := A3) (A2 := some ⟨w3.heap.size, 0, none⟩) (n1 := saidBytes.length) (n2 := 6) (c1 := c3) (c2 := 6) rfl rfl (by decide) (o3.rd.alloc (Nat.le_refl _) (.cells (u8s saidBytes).toArray 5)) (Rd.lit w3 5 (0, 0) saidBytes _ rfl)
  have k4 := k3'.alloc (.cells (u8s saidBytes).toArray 5)
  go_wp2_with fail
  refine S.out.mono ?_
  rintro e w5 ⟨rfl, nq, rfl⟩
  go_wp2
  go_ret
  exact ⟨rfl, k4.drewN _⟩
end Go.Proofs.Ytmhpnfnbjmpfcaa
