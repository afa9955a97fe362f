/-
  WALK of the law's SameList.
-/
import Derived.Test.YtncenfgnhamdbaaDevAt
import Derived.Test.YtncenfgnhamdbaaRef
namespace Go.Proofs.Ytncenfgnhamdbaa
open Go.RowKit

set_option maxHeartbeats 1000000 in
theorem sameList_any (A1 A2 : Option Addr) (l1 l2 : List (List UInt8)) (n1 n2 c1 c2 L1 L2 : Nat) (w : World) (h1 : n1 = l1.length) (h2 : n2 = l2.length) (r1 : RdS w L1 w.heap.size A1 l1) (r2 : RdS w L2 w.heap.size A2 l2) (hn : n1 ≤ 1000000) (hs : ∀ l ∈ l1, l.length ≤ 1000000) :
    Calls Try.prog 18 #[.slice A1 n1 c1, .slice A2 n2 c2] w fun e w' => e = .returned (.bool (decide (l1 = l2))) ∧ ∃ n, w.drewN n = w' := by
  by_cases hne : n1 = n2
  · subst hne
    have H1 := Lib.hid h1
    have H2 := Lib.hid h2
    have R1 := Lib.hid r1
    have R2 := Lib.hid r2
    have HS := Lib.hid hs
    clear h1 h2 r1 r2 hs
    go_enter Try.func18, Try.ntmps18
    go_wp2_with fail
    go_loopg [13] n1 (fun gh i wr => ∃ k nq : Nat, k ≤ n1 ∧ n1 - k ≤ gh ∧ i = .int .i64 k ∧ Hid (l1.take k = l2.take k) ∧ wr = w.drewN nq)
    case atStart => exact ⟨0, 0, Nat.zero_le _, by omega, rfl, Lib.hid rfl, rfl⟩
    case round =>
      obtain ⟨k, nq, hk, hg, rfl, HT, rfl⟩ := hrel
      rcases Nat.lt_or_ge k n1 with hlt | hge
      · have hlt' : (k : Int) < (n1 : Int) := by omega
        have q1 : k < l1.length := by rw [← H1.out]; exact hlt
        have q2 : k < l2.length := by rw [← H2.out]; exact hlt
        obtain ⟨b, o, A3, c3, rfl, _, _, m1, _, _, hr1, _⟩ := R1.out k _ (List.getElem?_eq_getElem q1)
        obtain ⟨b', o', A4, c4, rfl, _, _, m2, _, _, hr2, _⟩ := R2.out k _ (List.getElem?_eq_getElem q2)
        have hlen := HS.out _ (List.getElem_mem q1)
        obtain ⟨wq, hwq⟩ : ∃ wq, w.drewN nq = wq := ⟨_, rfl⟩
        have SB := Lib.hid fun n => same_any A3 A4 l1[k] l2[k] l1[k].length l2[k].length c3 c4 (wq.drewN n) rfl rfl (by omega) w.heap.size w.heap.size (by rw [← hwq]; exact (hr1.drewN nq).drewN n) (by rw [← hwq]; exact (hr2.drewN nq).drewN n)
        have m1 : wq.cell? ⟨b, o + k, none⟩ = some (.slice A3 l1[k].length c3) := by rw [← hwq]; exact m1
        have m2 : wq.cell? ⟨b', o' + k, none⟩ = some (.slice A4 l2[k].length c4) := by rw [← hwq]; exact m2
        have HWQ := Lib.hid hwq
        rw [hwq]
        clear hwq
        by_cases he : l1[k] = l2[k]
        · have HN : Hid (l1.take (k + 1) = l2.take (k + 1)) := Lib.hid (by rw [List.take_succ_eq_append_getElem q1, List.take_succ_eq_append_getElem q2, HT.out, he])
          have hd : decide (l1[k] = l2[k]) = true := by simp [he]
          rw [hd] at SB
          clear hd he hr1 hr2
          generalize l1[k].length = x1 at *
          generalize l2[k].length = x2 at *
          go_wp2_with fail
          go_quiet ((go_at_call 27; exact (SB.out _).mono fun e w' ⟨he, n, hn⟩ => ⟨he, _, hn.symm.trans (World.drewN_drewN ..)⟩))
          go_wp2_with fail
          go_roundg (n1 - (k + 1))
          case measure => omega
          case rel => exact ⟨k + 1, _, by omega, by omega, by go_num, HN, by rw [← HWQ.out, World.drewN_drewN]⟩
        · have HD : Hid (decide (l1 = l2) = false) := Lib.hid (by
            rw [decide_eq_false_iff_not]
            rintro rfl
            exact he rfl)
          have hd : decide (l1[k] = l2[k]) = false := by simp [he]
          rw [hd] at SB
          clear hd he hr1 hr2
          generalize l1[k].length = x1 at *
          generalize l2[k].length = x2 at *
          go_wp2_with fail
          go_quiet ((go_at_call 27; exact (SB.out _).mono fun e w' ⟨he, n, hn⟩ => ⟨he, _, hn.symm.trans (World.drewN_drewN ..)⟩))
          go_wp2_with fail
          go_ret
          exact ⟨by rw [HD.out]; rfl, _, by rw [← HWQ.out, World.drewN_drewN]⟩
      · obtain rfl : k = n1 := by omega
        have hlt' : ¬ (k : Int) < (k : Int) := by omega
        have HD : Hid (decide (l1 = l2) = true) := Lib.hid (by
          have h := HT.out
          rw [List.take_of_length_le (by rw [← H1.out]; exact Nat.le_refl _), List.take_of_length_le (by rw [← H2.out]; exact Nat.le_refl _)] at h
          simp [h])
        go_wp2_with fail
        go_ret
        exact ⟨by rw [HD.out]; rfl, _, rfl⟩
  · have HD : Hid (decide (l1 = l2) = false) := Lib.hid (by
      rw [decide_eq_false_iff_not]
      rintro rfl
      omega)
    have hb : ((n1 : Int) != (n2 : Int)) = true := by simp; omega
    clear r1 r2 hs h1 h2
    go_enter Try.func18, Try.ntmps18
    go_wp2_with fail
    go_ret
    exact ⟨by rw [HD.out]; rfl, 0, rfl⟩
end Go.Proofs.Ytncenfgnhamdbaa
