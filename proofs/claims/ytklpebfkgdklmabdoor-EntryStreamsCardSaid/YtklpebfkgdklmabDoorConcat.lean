/-
  WALKS of the library's Grow and Concat, at bytes: Concat of two rows.
-/
import Derived.Test.YtklpebfkgdklmabDoorOctW
import Derived.LoopN
namespace Go.Proofs.YtklpebfkgdklmabDoor
open Go.RowKit

theorem grow_any (n : Nat) (w : World) (hn : n ≤ 70368744177664) :
    Calls Tryd.prog 50 #[.slice none 0 0, .int .i64 n] w (Fresh w 0 []) := by
  by_cases h0 : n = 0
  · subst h0
    go_enter Tryd.func50, Tryd.ntmps50
    go_wp2
    go_ret
    exact ⟨none, 0, rfl, Own.nil _ _, NB.nil _, Keep.refl _ _⟩
  · have h1 : 0 < n := by omega
    go_enter Tryd.func50, Tryd.ntmps50
    go_wp2_with (at_builtin; refine wpList_append_made _ rfl _ _ 24 3 rfl bytesT (by kernel_rfl) n rfl rfl h1 hn ?_; intro cap w1 hown hcap hm hg)
    go_ret
    exact ⟨some ⟨w.heap.size, 0, none⟩, cap, rfl, hown.cut0, NB.new (Nat.le_refl _) _ _, (Keep.refl (fun _ => False) w).grown hg fun _ h => by cases h⟩

theorem concat_two (b : Nat) (A1 A2 : Option Addr) (l1 l2 : List UInt8) (c1 c2 : Nat) (w : World) (h0 : w.cell? ⟨b, 0, none⟩ = some (.slice A1 l1.length c1)) (h1 : w.cell? ⟨b, 1, none⟩ = some (.slice A2 l2.length c2))
    (B : Nat) (r1 : Rd w B A1 l1) (r2 : Rd w B A2 l2) (hB : B ≤ w.heap.size) (hb : l1.length + l2.length ≤ 70368744177664) :
    Calls Tryd.prog 45 #[.slice (some ⟨b, 0, none⟩) 2 2] w (Fresh w (l1.length + l2.length) (l1 ++ l2)) := by
  have hbl := World.block_lt_of_cell? w _ h0
  have G0 := grow_any (l1.length + l2.length) w hb
  rw [Int.natCast_add] at G0
  have G := Lib.hid G0
  clear G0
  go_enter Tryd.func45, Tryd.ntmps45
  go_wp2
  refine wp_loop_rounds 3 ?_
  rw [rounds_succ]
  go_wp2
  rw [rounds_succ]
  go_wp2
  rw [rounds_succ]
  go_wp2_with fail
  refine G.out.mono ?_
  rintro e w1 ⟨A3, c3, rfl, o3, v3, k3⟩
  have h01 : w1.cell? ⟨b, 0, none⟩ = some (.slice A1 l1.length c1) := (k3.cell (p := ⟨b, 0, none⟩) hbl (fun h => h)).trans h0
  have r11 := r1.keepF k3 hB
  go_wp2
  refine wp_loop_rounds 3 ?_
  rw [rounds_succ]
  go_wp2_with (at_builtin; refine wpList_append_u8 _ rfl (.tmp 31) (.tmp 32) _ rfl bytesT (.slice A3 0 c3) [] rfl o3 B A1 _ c1 l1 rfl rfl r11 (by simp; omega) ?_; intro A4 n4 c4 w4 o4 e4 h4 m4 g4 f4; have k4 := k3.own g4 v3)
  have v4 := v3.next k3.size f4
  have h14 : w4.cell? ⟨b, 1, none⟩ = some (.slice A2 l2.length c2) := (k4.cell (p := ⟨b, 1, none⟩) hbl (fun h => h)).trans h1
  have r24 := r2.keepF k4 hB
  simp only [List.nil_append] at o4
  rw [rounds_succ]
  go_wp2_with (at_builtin; refine wpList_append_u8 _ rfl (.tmp 31) (.tmp 32) _ rfl bytesT (.slice A4 n4 c4) l1 rfl o4 B A2 _ c2 l2 rfl rfl r24 (by omega) ?_; intro A5 n5 c5 w5 o5 e5 h5 m5 g5 f5; have k5 := k4.own g5 v4)
  rw [rounds_succ]
  go_wp2
  go_ret
  have v5 := v4.next k4.size f5
  obtain rfl : n5 = l1.length + l2.length := by rw [e5.out]; simp
  exact ⟨A5, c5, rfl, o5, v5, k5⟩
end Go.Proofs.YtklpebfkgdklmabDoor
