/-
  THE WALK of CheckParts.
-/
import Derived.Test.YtmhpnfnbjmpfcaaDoorSum
import Derived.Test.YtmhpnfnbjmpfcaaDoorOctW
import Derived.Deep.CutRange
import Derived.Deep.DeepCutAuto
import Derived.Deep.QuietTactic
import Derived.BigQuiet
import Derived.Deep.DrawnRows
import Derived.Deep.RegionWith
namespace Go.Proofs.YtmhpnfnbjmpfcaaDoor
open Go.RowKit

theorem three (l1 l2 l3 : List UInt8) : ∃ x1 x2 x3 : Nat, crc l1 = x1 ∧ crcMore x1 l2 = x2 ∧ crcMore x2 l3 = x3 ∧ crc (l1 ++ l2 ++ l3) = x3 ∧ x1 < 4294967296 ∧ x2 < 4294967296 :=
  ⟨_, _, _, rfl, rfl, rfl, by rw [crc_append, crc_append], crc_lt _, crcMore_lt _ (crc_lt _) _⟩
theorem least (a b : Nat) : ∃ m : Nat, (if b < a then (b : Int) else (a : Int)) = (m : Int) ∧ m ≤ a ∧ m ≤ b := by
  by_cases h : b < a
  · exact ⟨b, by simp [h], by omega, by omega⟩
  · exact ⟨a, by simp [h], by omega, by omega⟩
/-- What the loop has laid after k rounds. -/
def part (l1 l2 : List UInt8) (m k : Nat) : List UInt8 := (xors (l1.take m) (l2.take m)).take k ++ zeros (m - k)
theorem part_zero (l1 l2 : List UInt8) (m : Nat) : part l1 l2 m 0 = zeros m := by simp [part]
theorem xors_length (l1 l2 : List UInt8) (m : Nat) (h1 : m ≤ l1.length) (h2 : m ≤ l2.length) : (xors (l1.take m) (l2.take m)).length = m := by simp [xors]; omega
theorem part_length' (l1 l2 : List UInt8) (m k : Nat) (hk : k ≤ m) (h1 : m ≤ l1.length) (h2 : m ≤ l2.length) : (part l1 l2 m k).length = m := by
  simp [part, xors_length l1 l2 m h1 h2, zeros]; omega
theorem part_step (l1 l2 : List UInt8) (m k : Nat) (hk : k < m) (h1 : m ≤ l1.length) (h2 : m ≤ l2.length) : (part l1 l2 m k).set k (l1[k] ^^^ l2[k]) = part l1 l2 m (k + 1) := by
  have hx := xors_length l1 l2 m h1 h2
  unfold part
  rw [List.set_append_right _ _ (by simp [hx]; omega), List.length_take, hx, show k - min k m = 0 by omega, List.take_succ_eq_append_getElem (by omega)]
  simp only [zeros]
  rw [show m - k = (m - (k + 1)) + 1 by omega, List.replicate_succ]
  simp [xors]
theorem part_full (l1 l2 : List UInt8) (m : Nat) (h1 : m ≤ l1.length) (h2 : m ≤ l2.length) : part l1 l2 m m = xors (l1.take m) (l2.take m) := by
  have hx := xors_length l1 l2 m h1 h2
  unfold part
  rw [List.take_of_length_le (by omega)]
  simp [zeros]
theorem four (l1 l2 : List UInt8) (m : Nat) (h1 : m ≤ l1.length) (h2 : m ≤ l2.length) : ∃ y1 y0 y3 y4 : Nat, crc (xors (l1.take m) (l2.take m)) = y1 ∧ crc (zeros m) = y0 ∧ crc (l1.take m) = y3 ∧ crc (l2.take m) = y4 ∧
    Hid (bits .xor .u32 (y1 : Int) (y0 : Int) = bits .xor .u32 (y3 : Int) (y4 : Int)) := by
  refine ⟨_, _, _, _, rfl, rfl, rfl, rfl, ?_⟩
  show bits _ _ _ _ = bits _ _ _ _
  rw [u32_xor_nat _ _ (crc_lt _) (crc_lt _), u32_xor_nat _ _ (crc_lt _) (crc_lt _)]
  have h := crc_xor (l1.take m) (l2.take m) (by simp; omega)
  have hl : (l1.take m).length = m := by simp; omega
  rw [hl] at h
  rw [show zeros m = List.replicate m 0 from rfl, h]
theorem two_zeros {w : World} (w6 : World) (m : Nat) (hm : m ≤ 1000) (k6 : Keep (fun _ => False) w w6) :
    Own 5 ((w6.alloc (.cells (zrow m) 5)).alloc (.cells (zrow m) 5)).drew (.slice (some ⟨w6.heap.size, 0, none⟩) m m) (zeros m) ∧
    Own 5 ((w6.alloc (.cells (zrow m) 5)).alloc (.cells (zrow m) 5)).drew (.slice (some ⟨w6.heap.size + 1, 0, none⟩) m m) (zeros m) ∧
    w6.heap.size ≠ w6.heap.size + 1 ∧ w.heap.size ≤ w6.heap.size ∧ w.heap.size ≤ w6.heap.size + 1 ∧ Keep (fun _ => False) w ((w6.alloc (.cells (zrow m) 5)).alloc (.cells (zrow m) 5)).drew := by
  have hs := k6.size
  have h2 := Own.zeros 5 (w6.alloc (.cells (zrow m) 5)) m (by simp only [maxLen]; omega)
  rw [show (w6.alloc (.cells (zrow m) 5)).heap.size = w6.heap.size + 1 by simp] at h2
  exact ⟨((Own.zeros 5 w6 m (by simp only [maxLen]; omega)).alloc _).drew, h2.drew, by omega, hs, by omega, ((k6.alloc _).alloc _).drew⟩
theorem two_zeros' {w : World} (w6 : World) (m : Nat) (hm : m ≤ 1000) (k6 : Keep (fun _ => False) w w6) :
    Own 5 ((w6.alloc (.cells (zrow m) 5)).alloc (.cells (zrow m) 5)).drew (.slice (some ⟨w6.heap.size + 1, 0, none⟩) m m) (zeros m) ∧
    Own 5 ((w6.alloc (.cells (zrow m) 5)).alloc (.cells (zrow m) 5)).drew (.slice (some ⟨w6.heap.size, 0, none⟩) m m) (zeros m) ∧
    w6.heap.size + 1 ≠ w6.heap.size ∧ w.heap.size ≤ w6.heap.size + 1 ∧ w.heap.size ≤ w6.heap.size ∧ Keep (fun _ => False) w ((w6.alloc (.cells (zrow m) 5)).alloc (.cells (zrow m) 5)).drew := by
  obtain ⟨h1, h2, h3, h4, h5, h6⟩ := two_zeros w6 m hm k6
  exact ⟨h2, h1, by omega, h5, h4, h6⟩
def P3 (w w' : World) : Prop := Keep (fun _ => False) w w'
set_option maxRecDepth 100000 in
set_option maxHeartbeats 1000000 in
theorem parts_small (A1 A2 A3 : Option Addr) (l1 l2 l3 : List UInt8) (c1 c2 c3 : Nat) (w : World) (ht : Tab w)
    (r1 : Rd w w.heap.size A1 l1) (r2 : Rd w w.heap.size A2 l2) (r3 : Rd w w.heap.size A3 l3) (b1 : l1.length ≤ 1000) (b2 : l2.length ≤ 1000) (b3 : l3.length ≤ 1000) (q1 : l1.length ≤ c1) (q2 : l2.length ≤ c2) :
    Calls Tryd.prog 5 #[.slice A1 l1.length c1, .slice A2 l2.length c2, .slice A3 l3.length c3] w fun e w' => e = .returned (.bool true) ∧ P3 w w' := by
  have d1 : decide ((1000 : Int) < (l1.length : Int)) = false := by simp; omega
  have d2 : decide ((1000 : Int) < (l2.length : Int)) = false := by simp; omega
  have d3 : decide ((1000 : Int) < (l3.length : Int)) = false := by simp; omega
  go_enter Tryd.func5, Tryd.ntmps5
  go_wp2_with fail
  refine (speaks_any w ht).mono ?_
  rintro e w1 ⟨rfl, hk1⟩
  have ht1 := ht.kept hk1 (fun h => h)
  have s1 := hk1.size
  have r11 := r1.keepF hk1 (Nat.le_refl _)
  go_upto_region 6 with (first
    | (at_builtin; refine wpList_append_u8 _ rfl (.tmp 27) (.tmp 28) _ rfl bytesT (.slice (some ⟨w1.heap.size, 0, none⟩) 0 0) [] rfl (Own.lit 5 _ [] (by decide)) _ _ _ _ l1 rfl rfl (r11.alloc s1 _) (by simp; omega) ?_; intro A4 n4 c4 w4 o4 e4 h4 m4 g4 f4; simp only [List.nil_append] at o4; have k4 := (hk1.alloc (.cells #[] 5)).own g4 (NB.new s1 _ _); have v4 := (NB.new s1 0 0).next (by simp; omega) f4; have r24 := r2.keepF k4 (Nat.le_refl _); have s4 := k4.size)
    | (at_builtin; refine wpList_append_u8 _ rfl (.tmp 29) (.tmp 30) _ rfl bytesT (.slice A4 n4 c4) l1 rfl o4 _ _ _ _ l2 rfl rfl r24 (by omega) ?_; intro A5 n5 c5 w5 o5 e5 h5 m5 g5 f5; have k5 := k4.own g5 v4; have v5 := v4.next s4 f5; have r35 := r3.keepF k5 (Nat.le_refl _); have s5 := k5.size)
    | (at_builtin; refine wpList_append_u8 _ rfl (.tmp 31) (.tmp 32) _ rfl bytesT (.slice A5 n5 c5) (l1 ++ l2) rfl o5 _ _ _ _ l3 rfl rfl r35 (by simp; omega) ?_; intro A6 n6 c6 w6 o6 e6 h6 m6 g6 f6; have k6 := k5.own g6 v5; have v6 := v5.next s5 f6))
  have t6 := ht.kept k6 (fun h => h)
  have r16 := r1.keepF k6 (Nat.le_refl _)
  have r26 := r2.keepF k6 (Nat.le_refl _)
  have r36 := r3.keepF k6 (Nat.le_refl _)
  have X := three l1 l2 l3
  obtain ⟨x1, x2, x3, hx1, hx2, hx3, hx4, lx1, lx2⟩ := X
  have C1 := sum_is (c := c1) rfl (by omega) t6 r16 hx1
  have C2 := more_is (c := c2) lx1 rfl (by omega) t6 r26 hx2
  have C3 := more_is (c := c3) lx2 rfl (by omega) t6 r36 hx3
  have C4 := sum_is (c := c6) e6.out (by simp; omega) t6 o6.rd hx4
  have C6 := more_is (c := 0) lx1 rfl (by simp) t6 (Rd.nil (B := 0) (A := none)) (crcMore_nil x1)
  simp only [List.length_nil] at C6
  clear hx1 hx2 hx3 hx4 o4 o5 g4 g5 g6 f4 f5 f6 r24 r35 r11 hk1 ht1
  go_wp2_with fail
  refine C1.out.mono ?_
  rintro e w' ⟨rfl, rfl⟩
  go_wp2_with fail
  refine C2.out.mono ?_
  rintro e w' ⟨rfl, rfl⟩
  go_wp2_with fail
  refine C3.out.mono ?_
  rintro e w' ⟨rfl, rfl⟩
  go_wp2_with fail
  refine C4.out.mono ?_
  rintro e w' ⟨rfl, rfl⟩
  go_wp2_with fail
  refine C1.out.mono ?_
  rintro e w' ⟨rfl, rfl⟩
  go_wp2_with fail
  refine C6.out.mono ?_
  rintro e w' ⟨rfl, rfl⟩
  go_wp2_with fail
  refine C1.out.mono ?_
  rintro e w' ⟨rfl, rfl⟩
  obtain ⟨m, hmn, hm1, hm2⟩ := least l1.length l2.length
  go_upto_region 9 with fail
  clear hmn
  have hmk := run_make_u8 bytesT m (by omega)
  go_cut [9, 10] (fun sx sz wx => ∃ gx gz : Nat, sx = .slice (some ⟨gx, 0, none⟩) m m ∧ sz = .slice (some ⟨gz, 0, none⟩) m m ∧ Own 5 wx (.slice (some ⟨gx, 0, none⟩) m m) (zeros m) ∧ Own 5 wx (.slice (some ⟨gz, 0, none⟩) m m) (zeros m) ∧ gx ≠ gz ∧ w.heap.size ≤ gx ∧ w.heap.size ≤ gz ∧ Keep (fun _ => False) w wx)
  case first =>
    go_region
    all_goals (go_wp2_with fail; go_meet)
    · exact ⟨w6.heap.size, w6.heap.size + 1, rfl, rfl, two_zeros w6 m (by omega) k6⟩
    · exact ⟨w6.heap.size + 1, w6.heap.size, rfl, rfl, two_zeros' w6 m (by omega) k6⟩
  case rest =>
    obtain ⟨gx, gz, rfl, rfl, ox, oz, hne, hgx, hgz, kc⟩ := hcut
    have hgx0 := ox.lt gx rfl
    go_wp2
    go_loopw [62] (fun i wr => ∃ k : Nat, k ≤ m ∧ i = .int .i64 k ∧ Own 5 wr (.slice (some ⟨gx, 0, none⟩) m m) (part l1 l2 m k) ∧ Own 5 wr (.slice (some ⟨gz, 0, none⟩) m m) (zeros m) ∧ Keep (fun _ => False) w wr) (fun i _ => m - (intOf i).toNat)
    case atStart => exact ⟨0, Nat.zero_le _, rfl, by rw [part_zero]; exact ox, oz, kc⟩
    case round =>
      obtain ⟨k, hk, rfl, hox, hoz, hkw⟩ := hrel
      by_cases hlt : k < m
      · have rk1 := r1.keepF hkw (Nat.le_refl _)
        have rk2 := r2.keepF hkw (Nat.le_refl _)
        obtain ⟨a1, rfl, ha1, hc1⟩ := rk1.cells (k := k) (by omega)
        obtain ⟨a2, rfl, ha2, hc2⟩ := rk2.cells (k := k) (by omega)
        have hcx := hox.cellAt k (by rw [part_length' l1 l2 m k hk hm1 hm2]; omega)
        have hfx := hox.frozenAt k
        have hxb := u8_xor_nat l1[k].toNat l2[k].toNat l1[k].toNat_lt l2[k].toNat_lt
        rw [← toNat_xor] at hxb
        have HP := Lib.hid (part_step l1 l2 m k hlt hm1 hm2)
        generalize l1[k] ^^^ l2[k] = z at *
        go_wp2
        go_region
        go_wp2
        go_roundw
        case rel => exact ⟨k + 1, by omega, by go_num, by rw [← HP.out]; exact (hox.store k z).drew, (hoz.kept ((Keep.refl (fun i => i = gx) wr).setCell (.inr rfl) _) (by intro i hi; simp [Value.ownBlock] at hi; omega)).drew, (hkw.setCell (.inl hgx) _).drew⟩
        case measure => simp [intOf]; omega
      · obtain rfl : k = m := by omega
        have tk := ht.kept hkw (fun h => h)
        have rk1 := r1.keepF hkw (Nat.le_refl _)
        have rk2 := r2.keepF hkw (Nat.le_refl _)
        rw [part_full l1 l2 k hm1 hm2] at hox
        obtain ⟨y1, y0, y3, y4, e1, e0, e3, e4', hz1⟩ := four l1 l2 k hm1 hm2
        have D1 := fun nq => sum_is (c := k) (w := wr.drewN nq) (by rw [xors_length l1 l2 k hm1 hm2]) (by rw [xors_length l1 l2 k hm1 hm2]; omega) tk hox.rd e1
        have D0 := fun nq => sum_is (c := k) (w := wr.drewN nq) (by rw [zeros_length]) (by rw [zeros_length]; omega) tk hoz.rd e0
        have D3 := fun nq => sum_is (n := k) (c := c1) (w := wr.drewN nq) (by simp; omega) (by simp; omega) tk (rk1.take k) e3
        have D4 := fun nq => sum_is (n := k) (c := c2) (w := wr.drewN nq) (by simp; omega) (by simp; omega) tk (rk2.take k) e4'
        clear e1 e0 e3 e4'
        have hq1 : (k : Int) ≤ (c1 : Int) := by omega
        have hq2 : (k : Int) ≤ (c2 : Int) := by omega
        go_wp2
        go_quiet ((first | (go_at_call_of 9 (Value.slice A1 k c1); exact quiet_left (D3 _)) | (go_at_call_of 9 (Value.slice A2 k c2); exact quiet_left (D4 _)) | (go_at_call_of 9 (Value.slice (some (Addr.mk gx 0 none)) k k); exact quiet_left (D1 _)) | (go_at_call_of 9 (Value.slice (some (Addr.mk gz 0 none)) k k); exact quiet_left (D0 _))))
        go_wp2
        go_ret
        refine ⟨?_, hkw.drewN _⟩
        simp [hz1.out]
end Go.Proofs.YtmhpnfnbjmpfcaaDoor
