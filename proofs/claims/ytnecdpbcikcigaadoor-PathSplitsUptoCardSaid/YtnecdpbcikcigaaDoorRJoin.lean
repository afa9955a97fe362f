/-
  The document's Join, and the statements' helper that puts names behind one another.
-/
import Derived.Test.YtnecdpbcikcigaaDoorInside
namespace Go.Proofs.YtnecdpbcikcigaaDoor
open Go.RowKit

/-- How many bytes texts have. -/
abbrev total (ps : List Txt) : Nat := Lib.lens ps
theorem total_cons (p : Txt) (q : List Txt) : total (p :: q) = p.length + total q := by simp [total, Lib.lens]
theorem total_mem {ps : List Txt} {p : Txt} (h : p ∈ ps) : p.length ≤ total ps := by
  induction ps with
  | nil => cases h
  | cons a q ih =>
    rw [total_cons]
    rcases List.mem_cons.1 h with rfl | h
    · omega
    · have := ih h; omega
theorem total_take (ps : List Txt) (k : Nat) : total (ps.take k) ≤ total ps := Lib.lens_take_le ps k
theorem joined_total (ps : List Txt) : (joined ps).length ≤ total ps + ps.length := by
  cases ps with
  | nil => simp [joined, Lib.join, List.intercalate]
  | cons p q =>
    have : (joined (p :: q)).length = 1 * q.length + total (p :: q) := Lib.join_length p q [47]
    rw [List.length_cons]
    omega
/-- Each name with a slash ahead. -/
def led (ps : List Txt) : Txt := ps.flatMap fun p => 47 :: p
theorem led_snoc (ps : List Txt) (p : Txt) : led (ps ++ [p]) = led ps ++ 47 :: p := by simp [led]
theorem led_length (ps : List Txt) : (led ps).length = total ps + ps.length := by
  induction ps with
  | nil => rfl
  | cons p q ih =>
    have e : led (p :: q) = 47 :: p ++ led q := rfl
    rw [e, List.length_append, ih, total_cons, List.length_cons, List.length_cons]
    omega
theorem led_joinM : ∀ {ps : List Txt}, ps ≠ [] → led ps = joinM ps
  | [], h => absurd rfl h
  | [p], _ => by
    rw [joinM_one]
    simp [led]
  | p :: q :: r, _ => by
    have e : led (p :: q :: r) = 47 :: p ++ led (q :: r) := rfl
    rw [e, led_joinM (by simp), joinM, joinM, joined_cons_cons]
    rfl
theorem take_snoc {ps : List Txt} {k : Nat} (h : k < ps.length) : ps.take (k + 1) = ps.take k ++ [ps[k]] := by
  rw [List.take_add_one, List.getElem?_eq_getElem h]
  rfl
theorem joined_snoc (ps : List Txt) (p : Txt) (h : ps ≠ []) : joined (ps ++ [p]) = joined ps ++ 47 :: p := by
  have := above_def ps p h
  rw [joinM, joinM] at this
  injection this

set_option maxRecDepth 100000 in
theorem rjoin_any (A : Option Addr) (ps : List Txt) (n c : Nat) (w : World) (hn : n = ps.length) (hb : total ps ≤ 2000000) (hb2 : n ≤ 1000) (h : Strs w w.heap.size A (ps.map ba)) :
    Calls Tryd.prog 13 #[.slice A n c] w fun e w' => e = .returned (.string (ba (joinM ps))) ∧ KF w w' := by
  have HS := Lib.hid h
  have HN := Lib.hid hn
  clear h hn
  go_enter Tryd.func13, Tryd.ntmps13
  go_wp2_with fail
  go_loopg [3, 4] n (fun g s3 i wr => ∃ k : Nat, k ≤ n ∧ n - k ≤ g ∧ s3 = .string (ba (led (ps.take k))) ∧ i = .int .i64 k ∧ wr = w)
  case atStart => exact ⟨0, by omega, by omega, rfl, rfl, rfl⟩
  case round =>
    obtain ⟨k, hk, hg, rfl, rfl, rfl⟩ := hrel
    rcases Nat.lt_or_ge k n with hlt | hge
    · have hlt' : (k : Int) < (n : Int) := by omega
      have q1 : k < ps.length := by rw [← HN.out]; exact hlt
      obtain ⟨b, o, rfl, hbb, hcell⟩ := World.cellAt HS.out (n := k) (by rw [List.length_map]; exact q1)
      rw [List.getElem_map] at hcell
      have z1 : (ba (led (ps.take k))).size ≤ 3000000 := by
        rw [ba_size, led_length, List.length_take]
        have := total_take ps k
        omega
      have z2 : (ba ps[k]).size ≤ 3000000 := by
        rw [ba_size]
        have := total_mem (List.getElem_mem q1)
        omega
      have hE : ba (led (ps.take k)) ++ (⟨#[47]⟩ ++ ba ps[k]) = ba (led (ps.take (k + 1))) := by
        rw [take_snoc q1, led_snoc]
        apply ba_ext.1
        simp [ByteArray.data_append]
      have HE := Lib.hid hE
      clear hE
      generalize ba ps[k] = x at hcell z2 HE
      generalize ba (led (ps.take k)) = y at z1 HE ⊢
      generalize hY : ba (led (ps.take (k + 1))) = y2 at HE
      have HY := Lib.hid hY
      clear hY
      go_wp2_with fail
      go_roundg (n - (k + 1))
      case measure => omega
      case rel => exact ⟨k + 1, by omega, by omega, by rw [HY.out, ← HE.out], by go_num, rfl⟩
    · obtain rfl : k = n := by omega
      have hlt' : ¬ (k : Int) < (k : Int) := by omega
      have e : ps.take k = ps := by rw [HN.out, List.take_length]
      rw [e]
      by_cases hps : ps = []
      · subst hps
        have e2 : ba (led []) = ⟨#[]⟩ := rfl
        rw [e2]
        go_wp2_with fail
        go_ret
        exact ⟨rfl, KF.refl _⟩
      · have hE : (ba (led ps)).toList.isEmpty = false := by
          rw [Lib.toList_data, led_joinM hps]
          rfl
        have HJ := Lib.hid (show ba (led ps) = ba (joinM ps) by rw [led_joinM hps])
        have hE2 : ¬ (ba (led ps)).toList = [] := fun h => by rw [h] at hE; cases hE
        generalize ba (led ps) = y at hE hE2 HJ ⊢
        go_wp2_with fail
        go_ret
        exact ⟨by rw [← HJ.out]; rfl, KF.refl _⟩

set_option maxRecDepth 100000 in
theorem lawjoin_any (A : Option Addr) (ps : List Txt) (n c : Nat) (w : World) (hn : n = ps.length) (hb : total ps ≤ 2000000) (hb2 : n ≤ 1000) (h : Strs w w.heap.size A (ps.map ba)) :
    Calls Tryd.prog 17 #[.slice A n c] w fun e w' => e = .returned (.string (ba (joined ps))) ∧ KF w w' := by
  have HS := Lib.hid h
  have HN := Lib.hid hn
  clear h hn
  go_enter Tryd.func17, Tryd.ntmps17
  go_wp2_with fail
  go_loopg [3, 8] n (fun g s3 i wr => ∃ k : Nat, k ≤ n ∧ n - k ≤ g ∧ s3 = .string (ba (joined (ps.take k))) ∧ i = .int .i64 k ∧ wr = w)
  case atStart => exact ⟨0, by omega, by omega, rfl, rfl, rfl⟩
  case round =>
    obtain ⟨k, hk, hg, rfl, rfl, rfl⟩ := hrel
    rcases Nat.lt_or_ge k n with hlt | hge
    · have hlt' : (k : Int) < (n : Int) := by omega
      have q1 : k < ps.length := by rw [← HN.out]; exact hlt
      obtain ⟨b, o, rfl, hbb, hcell⟩ := World.cellAt HS.out (n := k) (by rw [List.length_map]; exact q1)
      rw [List.getElem_map] at hcell
      have z1 : (ba (joined (ps.take k))).size ≤ 3000000 := by
        rw [ba_size]
        have h1 := joined_total (ps.take k)
        rw [List.length_take] at h1
        have := total_take ps k
        omega
      have z2 : (ba ps[k]).size ≤ 3000000 := by
        rw [ba_size]
        have := total_mem (List.getElem_mem q1)
        omega
      rcases Nat.eq_zero_or_pos k with h0 | h0
      · have hE : ba (joined (ps.take k)) ++ ba ps[k] = ba (joined (ps.take (k + 1))) := by
          rw [take_snoc q1]
          have e0 : ps.take k = [] := by rw [h0]; rfl
          rw [e0]
          have e1 : joined ([] ++ [ps[k]]) = ps[k] := Lib.join_one _ _
          have e2 : joined [] = ([] : Txt) := rfl
          rw [e1, e2]
          apply ba_ext.1
          simp [ByteArray.data_append]
        have hgt : decide ((0 : Int) < (k : Int)) = false := decide_eq_false (by omega)
        have hgt2 : ¬ 0 < k := by omega
        have HE := Lib.hid hE
        clear hE h0
        generalize ba ps[k] = x at hcell z2 HE
        generalize ba (joined (ps.take k)) = y at z1 HE ⊢
        generalize hY : ba (joined (ps.take (k + 1))) = y2 at HE
        have HY := Lib.hid hY
        clear hY
        go_wp2_with fail
        go_roundg (n - (k + 1))
        case measure => omega
        case rel => exact ⟨k + 1, by omega, by omega, by rw [HY.out, ← HE.out], by go_num, rfl⟩
      · have hE : ba (joined (ps.take k)) ++ ⟨#[47]⟩ ++ ba ps[k] = ba (joined (ps.take (k + 1))) := by
          rw [take_snoc q1, joined_snoc _ _ (fun e => by
            have := congrArg List.length e
            rw [List.length_take, List.length_nil] at this
            omega)]
          apply ba_ext.1
          simp [ByteArray.data_append]
        have hgt : decide ((0 : Int) < (k : Int)) = true := decide_eq_true (by omega)
        have hgt2 : 0 < k := h0
        have HE := Lib.hid hE
        clear hE
        generalize ba ps[k] = x at hcell z2 HE
        generalize ba (joined (ps.take k)) = y at z1 HE ⊢
        generalize hY : ba (joined (ps.take (k + 1))) = y2 at HE
        have HY := Lib.hid hY
        clear hY
        go_wp2_with fail
        go_roundg (n - (k + 1))
        case measure => omega
        case rel => exact ⟨k + 1, by omega, by omega, by rw [HY.out, ← HE.out], by go_num, rfl⟩
    · obtain rfl : k = n := by omega
      have hlt' : ¬ (k : Int) < (k : Int) := by omega
      have e : ps.take k = ps := by rw [HN.out, List.take_length]
      rw [e]
      generalize hy : ba (joined ps) = y
      have HY := Lib.hid hy
      clear hy
      go_wp2_with fail
      go_ret
      exact ⟨by rw [HY.out]; rfl, KF.refl _⟩
end Go.Proofs.YtnecdpbcikcigaaDoor
