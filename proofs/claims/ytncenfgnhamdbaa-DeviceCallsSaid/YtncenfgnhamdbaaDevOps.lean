/-
  WALKS of a device's calls: bytes.Clone, pick, crashed, slices.Clone, Append, dropEmpty, Twin.
-/
import Derived.Test.YtncenfgnhamdbaaDevAt
import Derived.Lib.SliceRun
import Derived.Deep.RegionHeld3
import Derived.Deep.RegionLaw
namespace Go.Proofs.Ytncenfgnhamdbaa
open Go.RowKit

/-- Bytes in a new row. -/
theorem clone_any (A : Option Addr) (l : List UInt8) (n c : Nat) (w : World) (hl : n = l.length) (hb : l.length ≤ 1000000) (B : Nat) (hr : Rd w B A l) (hB : B ≤ w.heap.size) :
    Calls Try.prog 22 #[.slice A n c] w fun e w' => ∃ A' c', e = .returned (.slice A' n c') ∧ Own 5 w' (.slice A' n c') l ∧ NB w (.slice A' n c') ∧ KF w w' := by
  subst hl
  have hq := fun (w : World) (a : Option Addr) (n c n' c' : Nat) => Lib.run_eql_slice_nil (P := Try.prog) w 31 5 a n c n' c' Try.underlying31
  rcases A with _ | a
  · have : l = [] := by
      rcases l with _ | ⟨b, l⟩
      · rfl
      · obtain ⟨a, h, _⟩ := hr 0 b rfl
        cases h
    subst this
    go_enter Try.func22, Try.ntmps22
    go_wp2
    go_ret
    exact ⟨none, 0, rfl, Own.nil _ _, NB.nil _, KF.refl _⟩
  · go_enter Try.func22, Try.ntmps22
    go_wp2_with (at_builtin; refine wpList_append_u8 _ rfl _ _ _ rfl bytesT (.slice (some ⟨w.heap.size, 0, none⟩) 0 0) [] rfl (Own.lit 5 _ [] (by decide)) B (some a) _ c l rfl rfl (hr.alloc hB _) (by simp; omega) ?_; intro A4 n4 c4 w4 o4 e4 h4 m4 g4 f4)
    go_ret
    simp only [List.nil_append] at o4
    obtain rfl : n4 = l.length := o4.len
    exact ⟨A4, c4, rfl, o4, (NB.new (Nat.le_refl _) 0 0).next (by simp) f4, ((Keep.refl (fun _ => False) w).alloc (.cells #[] 5)).own g4 (NB.new (Nat.le_refl _) 0 0)⟩
/-- The same pages in a new row. -/
theorem pclone_any (v : Value) (qs : List PV) (w : World) (h : OwnC 52 2 encP w v qs) (hb : qs.length ≤ 65536) :
    Calls Try.prog 26 #[v] w fun e w' => ∃ A' c', e = .returned (.slice A' qs.length c') ∧ OwnC 52 2 encP w' (.slice A' qs.length c') qs ∧ NB w (.slice A' qs.length c') ∧ KF w w' := by
  obtain ⟨A, c, rfl, _, _, hr, _⟩ := h.shape encP_len
  have hq := fun (w : World) (a : Option Addr) (n c n' c' : Nat) => Lib.run_eql_slice_nil (P := Try.prog) w 43 52 a n c n' c' Try.underlying43
  have HL := Lib.hid hb
  rcases A with _ | a
  · have : qs = [] := by
      rcases qs with _ | ⟨b, l⟩
      · rfl
      · obtain ⟨_, _, h, _⟩ := hr 0 b rfl
        cases h
    subst this
    clear h hr hb
    go_enter Try.func26, Try.ntmps26
    go_wp2
    go_ret
    exact ⟨none, 0, rfl, ⟨by simp, .inl ⟨rfl, rfl⟩⟩, NB.nil _, KF.refl _⟩
  · have HR := Lib.hid (hr.keep (Nat.le_refl _) ((KF.refl w).alloc (.cells #[] 52)) (fun _ _ h => h))
    clear h hr hb
    go_enter Try.func26, Try.ntmps26
    go_wp2_with (at_builtin; refine wpList_append_c _ rfl _ _ _ rfl ctPage encP_len encP_one (by decide) (.slice (some ⟨w.heap.size, 0, none⟩) 0 0) [] rfl (OwnC.empty _ _) w.heap.size (some a) _ c qs rfl rfl HR.out (by have := HL.out; simp; omega) (by have := HL.out; simp; omega) ?_; intro A4 n4 c4 w4 o4 e4 h4 m4 g4 f4)
    go_ret
    simp only [List.nil_append] at o4
    obtain rfl : n4 = qs.length := OwnC.len (v := .slice none 0 0) o4
    exact ⟨A4, c4, rfl, o4, (NB.new (Nat.le_refl _) 0 0).next (by simp) f4, ((Keep.refl (fun _ => False) w).alloc (.cells #[] 52)).own g4 (NB.new (Nat.le_refl _) 0 0)⟩
theorem pick_any (A : Option Addr) (l : List UInt8) (n c i : Nat) (w : World) (hl : n = l.length) (hi : i ≤ 1000000) (hb : n ≤ 1000000) (B : Nat) (hr : Rd w B A l) :
    Calls Try.prog 24 #[.slice A n c, .int .i64 (i : Int)] w fun e w' => e = .returned (.int .u8 ((pickN l i : Nat) : Int)) ∧ w = w' := by
  by_cases h0 : n = 0
  · have hp : Hid (pickN l i = 0) := Lib.hid (by unfold pickN; rw [if_pos (by omega)])
    generalize pickN l i = p at *
    clear hr hl
    subst h0
    go_enter Try.func24, Try.ntmps24
    go_wp2
    go_ret
    exact ⟨ret_int (by rw [hp.out]; rfl), rfl⟩
  · have hm : i % n < l.length := by rw [← hl]; exact Nat.mod_lt _ (by omega)
    have hp : Hid (pickN l i = (l[i % n]'hm).toNat % 3) := Lib.hid (by
      unfold pickN
      subst hl
      rw [if_neg h0, List.getD_eq_getElem?_getD, List.getElem?_eq_getElem hm]
      rfl)
    obtain ⟨a, rfl, _, hc⟩ := hr.cells hm
    have hx : (l[i % n]'hm).toNat < 256 := UInt8.toNat_lt _
    generalize (l[i % n]'hm).toNat = x at *
    generalize pickN l i = p at *
    have hmn : i % n < n := by rw [hl]; rw [hl] at hm; exact hm
    have t1 : Int.tmod (i : Int) (n : Int) = ((i % n : Nat) : Int) := by rw [Int.tmod_eq_emod_of_nonneg (by omega)]; rfl
    have t2 : Int.tmod (x : Int) 3 = ((x % 3 : Nat) : Int) := by rw [Int.tmod_eq_emod_of_nonneg (by omega)]; rfl
    have wr1 : IntKind.i64.wrap (((i % n : Nat) : Int)) = ((i % n : Nat) : Int) := by rw [IntKind.wrap_i64]; omega
    clear hr hl hm
    generalize i % n = m at *
    go_enter Try.func24, Try.ntmps24
    go_wp2
    go_ret
    exact ⟨ret_int (by rw [hp.out]; omega), rfl⟩
theorem crashed_any (s : Nat) (A : Option Addr) (n c : Nat) (t : Nat) (w : World) (ht : t < 3) :
    Calls Try.prog 23 #[.agg #[.int .u8 (s : Int), .slice A n c], .int .u8 (t : Int)] w fun e w' => e = .returned (.agg (if t = 1 then #[.int .u8 (s : Int), .slice A n c] else #[.int .u8 (t : Int), .slice none 0 0])) ∧ KF w w' := by
  by_cases h1 : t = 1
  · subst h1
    go_enter Try.func23, Try.ntmps23
    go_wp2
    refine bodyPost_ret (v := .agg #[.int .u8 (s : Int), .slice A n c]) (by simp [results, Try.results23, go_sem]) rfl ?_
    exact ⟨rfl, ((KF.refl w).alloc _).alloc _⟩
  · have HT := Lib.hid h1
    have hb : ((t : Int) == 1) = false := by simp; omega
    clear h1
    go_enter Try.func23, Try.ntmps23
    go_wp2
    refine bodyPost_ret (v := .agg #[.int .u8 (t : Int), .slice none 0 0]) (by simp [results, Try.results23, go_sem]) rfl ?_
    exact ⟨by simp [HT.out], ((KF.refl w).alloc _).alloc _⟩
end Go.Proofs.Ytncenfgnhamdbaa
