/-
  WALKS of package octet, the writer's other calls: count, Bytes.
-/
import Derived.Test.YtklpebfkgdklmabDoorOctW
namespace Go.Proofs.YtklpebfkgdklmabDoor
open Go.RowKit
theorem Put.join {w w1 : World} {g : Nat} {v v1 : Value} {l : List UInt8} {e : Ending} {w2 : World} (hk : Keep (WS g v) w w1) (hf : v1.ownBlock = v.ownBlock ∨ ∃ k, v1.ownBlock = some k ∧ w.heap.size ≤ k) (h : Put w1 g v1 l e w2) : Put w g v l e w2 := by
  obtain ⟨he, v2, hw, hk2, hf2⟩ := h
  exact ⟨he, v2, hw, hk.trans hk2 (ws_sub hf), nb_trans hk.size hf hf2⟩
theorem wcount_any (g : Nat) (v : Value) (l : List UInt8) (n : Nat) (w : World) (h : Wr w g v l) (hn : n ≤ 4611686018427387904) (hb : l.length ≤ 70368744177000) :
    Calls Tryd.prog 33 #[.pointer (some ⟨g, 0, none⟩), .int .i64 n] w (Put w g v (l ++ be n 4)) := by
  have N0 := number_any g v l n 4 w h (by omega) hb
  rw [show sz 4 = 4 by decide] at N0
  have N := Lib.hid N0
  clear N0
  go_enter Tryd.func33, Tryd.ntmps33
  go_wp2_with fail
  refine N.out.mono ?_
  rintro e w1 ⟨rfl, h1⟩
  go_wp2
  go_end0
  exact ⟨rfl, h1⟩
theorem wbytes_any (g : Nat) (v : Value) (l m : List UInt8) (A : Option Addr) (n c : Nat) (w : World) (h : Wr w g v l) (hn : n = m.length) (hm : m.length ≤ 17592186044416) (hb : l.length ≤ 35184372088832) (B : Nat) (hr : Rd w B A m) (hB : B ≤ w.heap.size)
    (hS : ∀ a : Addr, A = some a → 0 < m.length → ¬ WS g v a.block) :
    Calls Tryd.prog 22 #[.pointer (some ⟨g, 0, none⟩), .slice A n c] w (Put w g v (l ++ be n 4 ++ m)) := by
  have HN := Lib.hid hn
  have C := Lib.hid (wcount_any g v l n w h (by omega) (by omega))
  clear hn
  go_enter Tryd.func22, Tryd.ntmps22
  go_wp2_with fail
  refine C.out.mono ?_
  rintro e w1 ⟨rfl, v1, hw1, hk1, hf1⟩
  have hr1 : Rd w1 B A m := by
    rcases Nat.eq_zero_or_pos m.length with h0 | h0
    · rw [List.eq_nil_of_length_eq_zero h0]; exact Rd.nil
    · exact hr.keepS hB hk1 fun a ha => hS a ha h0
  have hc := cell_of_one hw1.block
  have hf := free_of_one hw1.block
  have hlt := hw1.lt
  have hne := hw1.ne_
  have hlb : (l ++ be n 4).length + m.length ≤ 70368744177664 := by simp [be_length]; omega
  generalize l ++ be n 4 = L at *
  go_wp2_with (at_builtin; refine wpList_append_u8 _ rfl _ _ _ rfl bytesT v1 L rfl hw1.own B A n c m rfl HN.out hr1 hlb ?_; intro A4 n4 c4 w4 o4 e4 h4 m4 g4 f4; have k4 := (Keep.refl (fun k => v1.ownBlock = some k) w1).grown g4 (fun _ e _ => e); have b4 := Lib.hid ((k4.block g hlt hne).trans hw1.block); have c4' := cell_of_one b4.out; have f4' := free_of_one b4.out)
  go_end0
  have hne4 : (Value.slice A4 n4 c4).ownBlock ≠ some g := o4.ne_ b4.out (by decide)
  have hk2 : Keep (WS g v1) w1 (w4.setCell ⟨g, 0, none⟩ (.slice A4 n4 c4)) := (k4.mono (fun _ _ h => .inr h)).setCell (.inr (.inl rfl)) _
  refine ⟨rfl, _, ⟨one_setCell b4.out, o4.kept ((Keep.refl (fun i => i = g) w4).setCell (.inr rfl) _) (by rintro k hk rfl; exact hne4 hk)⟩, hk1.trans hk2 (ws_sub hf1), nb_trans hk1.size hf1 ?_⟩
  rcases f4 with f4 | f4
  · exact .inl f4
  · exact .inr ⟨_, f4, Nat.le_refl _⟩
end Go.Proofs.YtklpebfkgdklmabDoor
