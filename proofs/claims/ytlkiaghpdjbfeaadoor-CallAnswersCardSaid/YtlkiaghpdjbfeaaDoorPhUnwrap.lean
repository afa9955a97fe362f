/-
  THE WALK of check.Unwrap.
-/
import Derived.Test.YtlkiaghpdjbfeaaDoorPk0
namespace Go.Proofs.YtlkiaghpdjbfeaaDoor
open Go.RowKit
attribute [local go_sem ↓] Go.wp_at_zero Go.wp_at_succ

set_option maxHeartbeats 400000 in
theorem unwrap_few (A : Option Addr) (n c : Nat) (w : World) (hn : n < 4) :
    Calls Tryd.prog 39 #[.slice A n c] w fun e w' => e = .returned (.tuple #[.slice none 0 0, .int .i64 3]) ∧ Keep (fun _ => False) w w' := by
  have hd : decide ((n : Int) - 4 < 0) = true := by simp; omega
  go_enter Tryd.func39, Tryd.ntmps39
  go_wp2_with fail
  go_quiet (fail)
  go_wp2
  go_ret2
  exact ⟨rfl, (Keep.refl _ w).drewN _⟩

/-- A reader with l left. -/
def RrE (w : World) (g : Nat) (l : List UInt8) (bad : Bool) : Prop := ∃ A c, Rr w g A c l bad
/-- What the region of the test calls, at whatever world. -/
theorem unwrap_calls (A : Option Addr) (l : List UInt8) (k c y1 y2 : Nat) (w : World) (hl : k + 4 = l.length) (hc : k + 4 ≤ c) (hb : l.length ≤ 35184372088832) (ht : Tab w) (B : Nat) (hr : Rd w B A l) (hB : B ≤ w.heap.size)
    (h1 : num (l.drop k) = y1) (h2 : crc (l.take k) = y2) :
    Hid (∀ W, Keep (fun _ => False) w W → Calls Tryd.prog 40 #[.slice (A.map (·.add k)) 4 (c - k)] W fun e w' => ∃ g, e = .returned (.pointer (some ⟨g, 0, none⟩)) ∧ RrE w' g (l.drop k) false ∧ w.heap.size ≤ g ∧ Keep (fun _ => False) w w') ∧
    Hid (∀ W g, RrE W g (l.drop k) false → w.heap.size ≤ g → Keep (fun _ => False) w W → Calls Tryd.prog 57 #[.pointer (some ⟨g, 0, none⟩), .int .i64 4] W fun e w' => e = .returned (.int .u64 y1) ∧ Keep (fun _ => False) w w') ∧
    Hid (∀ W, Keep (fun _ => False) w W → Calls Tryd.prog 31 #[.slice A k c] W fun e w' => e = .returned (.int .u32 y2) ∧ W = w') := by
  refine ⟨fun W hk => ?_, fun W g hre hg hk => ?_, fun W hk => ?_⟩
  · have hcut := (hr.keepF hk hB).cut (k := k) (cap := c) (by omega)
    rw [if_neg (by omega)] at hcut
    refine (read_any _ (l.drop k) 4 (c - k) W (by simp; omega) (by simp; omega) B hcut (Nat.le_trans hB hk.size)).mono ?_
    rintro e w' ⟨g, A', c', rfl, h, hg, hk'⟩
    exact ⟨g, rfl, ⟨A', c', h⟩, Nat.le_trans hk.size hg, hk.trans hk' (fun _ _ h => h)⟩
  · obtain ⟨A', c', hrr⟩ := hre
    have h := number_take g A' c' (l.drop k) false 4 W hrr (by simp; omega)
    have e : tkL (sz 4) (l.drop k) false = l.drop k := by
      rw [sz4]
      simp only [tkL, List.length_drop]
      rw [if_neg (by simp; omega)]
      exact List.take_of_length_le (by simp; omega)
    rw [e, h1] at h
    refine h.mono ?_
    rintro e w' ⟨rfl, _, hk'⟩
    exact ⟨rfl, hk.trans hk' (fun i hi h => by omega)⟩
  · exact sum_is (by simp; omega) (by simp; omega) (ht.kept hk (fun h => h)) ((hr.keepF hk hB).take k) h2

/-- What Unwrap leaves: what is ahead of the sum, if it is right; else nothing, and ErrForm. -/
def Unw (w : World) (l : List UInt8) (k : Nat) (ok : Prop) (e : Ending) (w' : World) : Prop :=
  Keep (fun _ => False) w w' ∧ ((ok ∧ ∃ A' c', e = .returned (.tuple #[.slice A' k c', .int .i64 0]) ∧ Own 5 w' (.slice A' k c') (l.take k) ∧ NB w (.slice A' k c')) ∨ (¬ ok ∧ e = .returned (.tuple #[.slice none 0 0, .int .i64 3])))
set_option maxHeartbeats 1000000 in
theorem unwrap_full (A : Option Addr) (l : List UInt8) (k c y1 y2 : Nat) (w : World) (hl : k + 4 = l.length) (hc : k + 4 ≤ c) (_hcm : c ≤ 9223372036854775807) (hb : l.length ≤ 35184372088832) (ht : Tab w) (B : Nat) (hr : Rd w B A l) (hB : B ≤ w.heap.size)
    (h1 : num (l.drop k) = y1) (h2 : crc (l.take k) = y2) :
    Calls Tryd.prog 39 #[.slice A (k + 4) c] w (Unw w l k (y1 = y2)) := by
  obtain ⟨CR, CN, CS⟩ := unwrap_calls A l k c y1 y2 w hl hc hb ht B hr hB h1 h2
  have hy2 : y2 < 4294967296 := by rw [← h2]; exact crc_lt _
  have HL := Lib.hid hl
  have hk : k ≤ 35184372088832 := by omega
  have hb' : (l.take k).length ≤ 70368744177664 := by simp; omega
  have hwr : IntKind.u64.wrap (y2 : Int) = y2 := by rw [IntKind.wrap_u64]; omega
  clear h1 h2 hl hb ht
  have hck : ¬ c = k := by omega
  have hd : decide ((k : Int) < 0) = false := by simp
  go_enter Tryd.func39, Tryd.ntmps39
  go_upto_region 2 with fail
  go_cut [22] (fun s wx => s = .bool ((y1 : Int) != (y2 : Int)) ∧ Keep (fun _ => False) w wx)
  case first =>
    go_region_with (first
      | (go_at_call 40; refine (CR.out _ ?_).mono ?_; (first | assumption | exact (Keep.refl _ _).drew); rintro e w1 ⟨g, rfl, hrr, hg, hk1⟩)
      | (go_at_call 57; refine (CN.out _ _ ?_ ?_ ?_).mono ?_; assumption; assumption; assumption; rintro e w2 ⟨rfl, hk2⟩)
      | (go_at_call 31; refine (CS.out _ ?_).mono ?_; (first | assumption | exact (Keep.refl _ _).drew); rintro e w3 ⟨rfl, rfl⟩))
    all_goals (go_wp2_with fail; go_meet; exact ⟨rfl, by assumption⟩)
  case rest =>
    obtain ⟨rfl, kc⟩ := hcut
    by_cases hy : y1 = y2
    · have hbb : ((y1 : Int) != (y2 : Int)) = false := by simp [hy]
      have C := Lib.hid (clone_any A (l.take k) k c wc (by have := HL.out; simp; omega) hb' B ((hr.keepF kc hB).take k) (Nat.le_trans hB kc.size))
      clear hwr
      go_wp2_with fail
      refine C.out.mono ?_
      rintro e w5 ⟨A5, c5, rfl, o5, v5, k5⟩
      go_wp2
      go_ret2
      exact ⟨kc.trans k5 (fun _ _ h => h), .inl ⟨hy, A5, c5, rfl, o5, v5.older kc.size⟩⟩
    · have hbb : ((y1 : Int) != (y2 : Int)) = true := by simp; omega
      go_wp2
      go_ret2
      exact ⟨kc, .inr ⟨by simp, rfl⟩⟩
theorem unwrap_is {A : Option Addr} {l : List UInt8} {n k c y1 y2 : Nat} {w : World} (hn : n = k + 4) (hl : k + 4 = l.length) (hb : l.length ≤ 35184372088832) (ht : Tab w) (ho : Own 5 w (.slice A n c) l) (h1 : num (l.drop k) = y1) (h2 : crc (l.take k) = y2) :
    Hid (Calls Tryd.prog 39 #[.slice A n c] w (Unw w l k (y1 = y2))) := by
  subst hn
  obtain ⟨A', c', e, hc, hm, hr, _⟩ := ho.shape
  injection e with e1 e2 e3
  subst e1 e3
  simp only [maxLen] at hm
  exact unwrap_full A l k c y1 y2 w hl (by omega) (by omega) hb ht w.heap.size hr (Nat.le_refl _) h1 h2
end Go.Proofs.YtlkiaghpdjbfeaaDoor
