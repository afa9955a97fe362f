/-
  THE WALK of CheckTurned.
-/
import Derived.Test.YtmhpnfnbjmpfcaaDoorUnwrap
import Derived.Test.YtmhpnfnbjmpfcaaDoorSumMath
import Derived.Test.YtmhpnfnbjmpfcaaDoorRef
import Derived.Laws.Bits128
namespace Go.Proofs.YtmhpnfnbjmpfcaaDoor
open Go.RowKit

theorem i64_and65535 (n : Int) : bits .and .i64 n 65535 = n % 65536 := by
  have h127 : (BitVec.ofInt 64 65535).toNat = 2 ^ 16 - 1 := by decide
  have key : (BitVec.ofInt 64 n &&& BitVec.ofInt 64 65535).toNat = (n % ((2 ^ 64 : Nat) : Int)).toNat % 2 ^ 16 := by
    rw [BitVec.toNat_and, BitVec.toNat_ofInt, h127, Nat.and_two_pow_sub_one_eq_mod]
  show IntKind.i64.wrap ((BitVec.ofInt 64 n &&& BitVec.ofInt 64 65535).toNat : Nat) = n % 65536
  rw [key, IntKind.wrap_i64]
  omega
theorem Own.head {E : TypeId} {w : World} {A : Option Addr} {n c : Nat} {l : List UInt8} (h : Own E w (.slice A n c) l) (hn : 0 < n) : ∃ g, A = some ⟨g, 0, none⟩ := by
  have e := h.len
  obtain ⟨g, cap, hv, _⟩ := World.ownsRow.form h (by omega)
  injection hv with hv
  exact ⟨g, hv⟩

set_option maxRecDepth 100000 in
set_option maxHeartbeats 1000000 in
theorem turned_small (A : Option Addr) (l : List UInt8) (c N : Nat) (z : Int) (t : UInt8) (w : World) (ht : Tab w) (hr : Rd w w.heap.size A l) (hb : l.length ≤ 2000) (hN : N = l.length + 4) :
    Calls Tryd.prog 4 #[.slice A l.length c, .int .i64 z, .int .u8 t.toNat] w fun e w' => e = .returned (.bool true) ∧ Keep (fun _ => False) w w' := by
  have d1 : decide ((2000 : Int) < (l.length : Int)) = false := by simp; omega
  have W0 := fun w1 (k : Keep (fun _ => False) w w1) => wrap_any A l c w1 (by omega) (ht.kept k (fun h => h)) w.heap.size (hr.keepF k (Nat.le_refl _)) k.size
  rw [← hN] at W0
  have HW := Lib.hid W0
  clear W0
  have HN := Lib.hid hN
  have hN1 : N ≤ 2004 := by omega
  have hN2 : 0 < N := by omega
  clear hN
  go_enter Tryd.func4, Tryd.ntmps4
  go_wp2_with fail
  refine (speaks_any w ht).mono ?_
  rintro e w1 ⟨rfl, k1⟩
  go_wp2_with fail
  refine (HW.out w1 k1).mono ?_
  rintro e w2 ⟨A2, c2, rfl, o2, v2, k2'⟩
  obtain ⟨g, rfl⟩ := o2.head hN2
  have k2 := k1.trans k2' (fun _ _ h => h)
  have v2' := v2.older k1.size
  clear v2 k2'
  have hLl : l.length + 4 = (l ++ be (crc l) 4).length := by simp [be_length]
  have U1 := unwrap_is (y1 := crc l) (y2 := crc l) HN.out hLl (by rw [← hLl]; omega) (ht.kept k2 (fun h => h)) o2 (by rw [List.drop_left, num_be4 _ (crc_lt l)]) (by rw [List.take_left])
  have HLl := Lib.hid hLl
  clear hLl
  go_wp2_with fail
  refine U1.out.mono ?_
  rintro e w3 ⟨k3', ⟨_, A3, c3, rfl, o3, v3⟩ | ⟨h, _⟩⟩
  rotate_left
  · exact absurd trivial h
  rw [List.take_left] at o3
  have k3 := k2.trans k3' (fun _ _ h => h)
  have S1 := Lib.hid (same_any A3 A l l l.length l.length c3 c w3 rfl rfl (by omega) w3.heap.size w.heap.size o3.rd (hr.keepF k3 (Nat.le_refl _)))
  have d0 : decide (l = l) = true := by simp
  go_wp2_with fail
  refine S1.out.mono ?_
  rw [d0]
  rintro e w4 ⟨rfl, nq, rfl⟩
  have o2' := o2.kept k3' (fun _ _ h => h)
  obtain ⟨m, hm⟩ : ∃ m : Nat, z % 65536 = (m : Int) := ⟨(z % 65536).toNat, by omega⟩
  have hand := i64_and65535 z
  rw [hm] at hand
  have hi : m % N < N := Nat.mod_lt _ hN2
  have hiL : m % N < (l ++ be (crc l) 4).length := by rw [← HLl.out, ← HN.out]; exact hi
  have hcell := o2'.cellAt (m % N) hiL
  have hfr := o2'.frozenAt (m % N)
  have hxor := u8_xor_nat (l ++ be (crc l) 4)[m % N].toNat t.toNat (l ++ be (crc l) 4)[m % N].toNat_lt t.toNat_lt
  rw [← toNat_xor] at hxor
  have o5 := (o2'.drewN nq).store (m % N) ((l ++ be (crc l) 4)[m % N] ^^^ t)
  have HT := Lib.hid (turned l (m % N) t hiL)
  generalize (l ++ be (crc l) 4)[m % N] = b0 at *
  generalize b0 ^^^ t = b1 at *
  have hg : w.heap.size ≤ g := v2' g rfl
  have k5 := (k3.drewN nq).setCell (p := ⟨g, m % N, none⟩) (.inl hg) (.int .u8 b1.toNat)
  have hlen : l.length + 4 = ((l ++ be (crc l) 4).set (m % N) b1).length := by rw [List.length_set]; exact HLl.out
  generalize (l ++ be (crc l) 4).set (m % N) b1 = L5 at *
  obtain ⟨y1, hy1⟩ : ∃ y, num (L5.drop l.length) = y := ⟨_, rfl⟩
  obtain ⟨y2, hy2⟩ : ∃ y, crc (L5.take l.length) = y := ⟨_, rfl⟩
  rw [hy1, hy2] at HT
  have U2 := unwrap_is HN.out hlen (by omega) (ht.kept k5 (fun h => h)) o5 hy1 hy2
  have hbN : ((N : Int) != (l.length : Int) + 4) = false := by have := HN.out; simp; omega
  clear hm o2 o2' k3' S1 d0 U1 HW d1 hy1 hy2 hlen
  go_wp2_with fail
  refine U2.out.mono ?_
  rintro e w6 ⟨k6', ⟨hy, A6, c6, rfl, o6, v6⟩ | ⟨hy, rfl⟩⟩
  · have ht0 : ((t.toNat : Int) == 0) = true := by
      rw [HT.out.1 hy]
      rfl
    go_wp2
    go_ret
    exact ⟨rfl, k5.trans k6' (fun _ _ h => h)⟩
  · have ht0 : ((t.toNat : Int) == 0) = false := by
      rw [beq_eq_false_iff_ne]
      intro h
      exact hy (HT.out.2 (UInt8.toNat_inj.1 (by simpa using h)))
    go_wp2
    go_ret
    exact ⟨rfl, k5.trans k6' (fun _ _ h => h)⟩

set_option maxHeartbeats 400000 in
theorem turned_great (A : Option Addr) (n c : Nat) (z : Int) (t : UInt8) (w : World) (ht : Tab w) (h : 2000 < n) :
    Calls Tryd.prog 4 #[.slice A n c, .int .i64 z, .int .u8 t.toNat] w fun e w' => e = .returned (.bool true) ∧ Keep (fun _ => False) w w' := by
  have d1 : decide ((2000 : Int) < (n : Int)) = true := by simp; omega
  go_enter Tryd.func4, Tryd.ntmps4
  go_wp2_with fail
  refine (speaks_any w ht).mono ?_
  rintro e w1 ⟨rfl, k1⟩
  go_wp2
  go_ret
  exact ⟨rfl, k1⟩
theorem turned_any (A : Option Addr) (l : List UInt8) (c : Nat) (z : Int) (t : UInt8) (w : World) (ht : Tab w) (hr : Rd w w.heap.size A l) :
    Calls Tryd.prog 4 #[.slice A l.length c, .int .i64 z, .int .u8 t.toNat] w fun e w' => e = .returned (.bool true) ∧ Keep (fun _ => False) w w' := by
  rcases Nat.lt_or_ge 2000 l.length with h | h
  · exact turned_great A l.length c z t w ht h
  · exact turned_small A l c _ z t w ht hr h rfl
end Go.Proofs.YtmhpnfnbjmpfcaaDoor
