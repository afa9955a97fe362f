/-
  The document's answer on names and rows of texts: Name, SameTexts, Join.
-/
import Derived.Test.YtklpebfkgdklmaaDoorSplit
import Derived.Deep.CutRange
import Derived.Deep.DeepCutAuto
import Derived.Deep.QuietTactic
import Derived.BigQuiet
import Derived.Deep.DrawnRows
namespace Go.Proofs.YtklpebfkgdklmaaDoor
open Go.RowKit

set_option maxRecDepth 100000 in
theorem rname_same (s : ByteArray) (w : World) (hs : s.size ≤ 9223372036854775807) : Calls Tryd.prog 60 #[.string s] w fun e w' => e = .returned (.bool (decide (IsName s.data.toList))) ∧ w' = w := by
  go_enter Tryd.func60, Tryd.ntmps60
  go_wp2_with fail
  go_loopg [3] s.size (fun g i wr => ∃ k : Nat, k ≤ s.size ∧ s.size - k ≤ g ∧ i = .int .i64 k ∧ wr = w ∧ Hid (Fine s k))
  case atStart => exact ⟨0, by omega, by omega, rfl, rfl, Lib.hid fun k b hk => absurd hk (Nat.not_lt_zero _)⟩
  case round =>
    obtain ⟨k, hk, hg, rfl, rfl, HF⟩ := hrel
    rcases Nat.lt_or_ge k s.size with hlt | hge
    · have hlt' : (k : Int) < (s.size : Int) := by omega
      have hgi : (s[k]'hlt) = s.get! k := by
        show _ = s.get! k
        simp [ByteArray.get!, getElem!_pos, hlt]
        rfl
      have F2 := Lib.hid (fun h => HF.out.next hlt h)
      have FB := Lib.hid (fun h => hasBad_hit hlt h)
      have n47 : ∀ h : (((s.get! k).toNat : Int) == 47) = true, s.get! k = 47 := fun h => by
        have := of_decide_eq_true (by simpa using h) (p := (((s.get! k).toNat : Int) = 47))
        exact UInt8.toNat_inj.1 (by simpa using (by omega : (s.get! k).toNat = 47))
      have n0 : ∀ h : (((s.get! k).toNat : Int) == 0) = true, s.get! k = 0 := fun h => by
        have := of_decide_eq_true (by simpa using h) (p := (((s.get! k).toNat : Int) = 0))
        exact UInt8.toNat_inj.1 (by simpa using (by omega : (s.get! k).toNat = 0))
      have N47 := Lib.hid n47
      have N0 := Lib.hid n0
      clear n47 n0
      go_wp2_with fail
      · have h : ((s.get! k).toNat : Int) = 47 := by assumption
        go_ret
        refine ⟨returned_no fun hn => ?_, rfl⟩
        have := FB.out (Or.inl (N47.out (by rw [h]; rfl)))
        rw [hasBad_false.2 hn.1] at this
        cases this
      · have h : (((s.get! k).toNat : Int) == 47) = true ∨ (((s.get! k).toNat : Int) == 0) = true := by assumption
        go_ret
        refine ⟨returned_no fun hn => ?_, rfl⟩
        have : hasBad s.data.toList = true := by
          rcases h with h | h
          · exact FB.out (Or.inl (N47.out h))
          · exact FB.out (Or.inr (N0.out h))
        rw [hasBad_false.2 hn.1] at this
        cases this
      · have h : (((s.get! k).toNat : Int) == 47) = false ∧ (((s.get! k).toNat : Int) == 0) = false := by assumption
        go_roundg (s.size - (k + 1))
        case measure => omega
        case rel =>
          refine ⟨k + 1, by omega, by omega, by go_num, rfl, Lib.hid (F2.out ⟨fun e => ?_, fun e => ?_⟩)⟩
          · rw [e] at h; exact absurd h.1 (by decide)
          · rw [e] at h; exact absurd h.2 (by decide)
    · obtain rfl : k = s.size := by omega
      have hlt' : ¬ (s.size : Int) < (s.size : Int) := by omega
      have HB := Lib.hid HF.out.all
      go_wp2_with fail
      · have h : s.toList = [46] := by assumption
        go_ret
        rw [Lib.toList_data] at h
        exact ⟨returned_no fun hn => hn.2.2.2.1 h, rfl⟩
      · have h : ¬ s.toList = [46] := by assumption
        have h1 : (1 : Int) ≤ s.size := by assumption
        have h16 : (s.size : Int) ≤ 16 := by assumption
        go_ret
        refine ⟨?_, rfl⟩
        show Ending.returned (Value.bool (!(s.toList == [46]) && !(s.toList == [46, 46]))) = _
        rw [beq_eq_false_iff_ne.2 h]
        rw [Lib.toList_data] at h ⊢
        rw [size_len] at h1 h16
        congr 2
        by_cases h2 : s.data.toList = [46, 46]
        · rw [h2]
          rfl
        · rw [beq_eq_false_iff_ne.2 h2]
          symm
          exact decide_eq_true ⟨hasBad_false.1 HB.out, by omega, by omega, h, h2⟩
      · have h16 : (16 : Int) < s.size := by assumption
        go_ret
        rw [size_len] at h16
        exact ⟨returned_no fun hn => by have := hn.2.2.1; omega, rfl⟩
      · have h1 : (s.size : Int) < 1 := by assumption
        go_ret
        rw [size_len] at h1
        exact ⟨returned_no fun hn => by have := hn.2.1; omega, rfl⟩
theorem rname_any (s : ByteArray) (w : World) (hs : s.size ≤ 9223372036854775807) : Calls Tryd.prog 60 #[.string s] w fun e w' => e = .returned (.bool (decide (IsName s.data.toList))) ∧ KF w w' :=
  (rname_same s w hs).mono fun _ _ ⟨he, hw⟩ => ⟨he, hw ▸ KF.refl w⟩

theorem take_texts {xs ys : List Txt} {k : Nat} (h : xs.take k = ys.take k) (q1 : k < xs.length) (q2 : k < ys.length) (he : xs[k] = ys[k]) : xs.take (k + 1) = ys.take (k + 1) := by
  rw [List.take_add_one, List.take_add_one, h, List.getElem?_eq_getElem q1, List.getElem?_eq_getElem q2, he]
set_option maxRecDepth 100000 in
theorem texts_same (A A' : Option Addr) (n n' c c' : Nat) (xs ys : List Txt) (w : World) (hn : n = xs.length) (hn' : n' = ys.length) (hb : n ≤ 1000000000) (hb' : n' ≤ 1000000000) (h : Strs w w.heap.size A (xs.map ba)) (h' : Strs w w.heap.size A' (ys.map ba)) :
    Calls Tryd.prog 46 #[.slice A n c, .slice A' n' c'] w fun e w' => e = .returned (.bool (decide (xs = ys))) ∧ KF w w' := by
  have HS := Lib.hid h
  have HS' := Lib.hid h'
  have HN := Lib.hid hn
  have HN' := Lib.hid hn'
  clear h h' hn hn'
  by_cases hl : n = n'
  · subst hl
    go_enter Tryd.func46, Tryd.ntmps46
    go_wp2_with fail
    go_loopg [5] n (fun g i wr => ∃ k nq : Nat, k ≤ n ∧ n - k ≤ g ∧ i = .int .i64 k ∧ wr = w.drewN nq ∧ Hid (xs.take k = ys.take k))
    case atStart => exact ⟨0, 0, by omega, by omega, rfl, rfl, Lib.hid rfl⟩
    case round =>
      obtain ⟨k, nq, hk, hg, rfl, rfl, HT⟩ := hrel
      rcases Nat.lt_or_ge k n with hlt | hge
      · have hlt' : (k : Int) < (n : Int) := by omega
        have q1 : k < xs.length := by rw [← HN.out]; exact hlt
        have q2 : k < ys.length := by rw [← HN'.out]; exact hlt
        obtain ⟨b, o, rfl, hbb, hc⟩ := World.cellAt HS.out (n := k) (by rw [List.length_map]; exact q1)
        obtain ⟨b', o', rfl, hbb', hc'⟩ := World.cellAt HS'.out (n := k) (by rw [List.length_map]; exact q2)
        rw [List.getElem_map] at hc hc'
        by_cases he : xs[k] = ys[k]
        · have HX := Lib.hid (take_texts HT.out q1 q2 he)
          rw [he] at hc
          generalize ba ys[k] = x at hc hc'
          go_wp2
          go_quiet (fail)
          go_wp2
          go_roundg (n - (k + 1))
          case measure => omega
          case rel => exact ⟨k + 1, _, by omega, by omega, by go_num, rfl, HX.out⟩
        · have hbb : ((ba xs[k]).toList == (ba ys[k]).toList) = false := by
            rw [Lib.toList_data, Lib.toList_data]
            exact beq_eq_false_iff_ne.2 he
          have HD := Lib.hid (show decide (xs = ys) = false by
            rw [decide_eq_false_iff_not]
            rintro rfl
            exact he rfl)
          generalize ba xs[k] = x at hc hbb
          generalize ba ys[k] = y at hc' hbb
          go_wp2
          go_quiet (fail)
          go_wp2
          go_ret
          exact ⟨by rw [HD.out]; rfl, ((KF.refl _).drewN _).drewN _⟩
      · obtain rfl : k = n := by omega
        have HD := Lib.hid (show decide (xs = ys) = true by
          have h := HT.out
          rw [List.take_of_length_le (by rw [← HN.out]; exact Nat.le_refl _), List.take_of_length_le (by rw [← HN'.out]; exact Nat.le_refl _)] at h
          exact decide_eq_true h)
        have hlt' : ¬ (k : Int) < (k : Int) := by omega
        go_wp2
        go_ret
        exact ⟨by rw [HD.out]; rfl, (KF.refl _).drewN _⟩
  · have hnn : ((n : Int) == (n' : Int)) = false := beq_eq_false_iff_ne.2 (by omega)
    have HD := Lib.hid (show decide (xs = ys) = false by
      rw [decide_eq_false_iff_not]
      rintro rfl
      exact hl (HN.out.trans HN'.out.symm))
    go_enter Tryd.func46, Tryd.ntmps46
    go_wp2_with fail
    go_ret
    exact ⟨by rw [HD.out]; rfl, KF.refl _⟩
end Go.Proofs.YtklpebfkgdklmaaDoor
