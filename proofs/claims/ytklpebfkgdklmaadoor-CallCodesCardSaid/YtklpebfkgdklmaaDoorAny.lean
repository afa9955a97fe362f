/-
  strings.ContainsAny at the two signs that no name has, of at most sixteen bytes of whatever kind; path.Name.
-/
import Derived.Test.YtklpebfkgdklmaaDoorRune
import Derived.Lib.DecodeN
import Derived.Lib.OthersKept
namespace Go.Proofs.YtklpebfkgdklmaaDoor
open Go.RowKit Go.Lib

/-- Has a text a sign that no name has? -/
def hasBad (l : Txt) : Bool := l.any fun b => b == 47 || b == 0
theorem hasBad_false {l : Txt} : hasBad l = false ↔ ∀ b ∈ l, b ≠ 47 ∧ b ≠ 0 := by
  simp [hasBad]
theorem contains_two (b : UInt8) : ([47, 0] : List UInt8).contains b = (b == 47 || b == 0) := by
  rw [List.contains_cons, List.contains_cons, List.contains_nil, Bool.or_false]
theorem indexAny_bad (l : Txt) : decide (0 ≤ Lib.indexAny l [47, 0]) = hasBad l := by
  induction l with
  | nil => rfl
  | cons b l ih =>
    have hge := Lib.indexAny_ge [47, 0] l
    unfold Lib.indexAny
    have hc : ([47, 0] : List UInt8).contains b = (b == 47 || b == 0) := contains_two b
    rw [hc]
    unfold hasBad at ih ⊢
    rw [List.any_cons]
    cases hb : (b == 47 || b == 0)
    · simp only [Bool.false_eq_true, if_false, Bool.false_or]
      rw [← ih]
      split
      · next h => rw [beq_iff_eq] at h; rw [h]
      · next h => rw [beq_iff_eq] at h; congr 1; exact propext ⟨fun _ => by omega, fun _ => by omega⟩
    · simp

/-- All that a sign beyond ASCII is of lies beyond ASCII. -/
theorem decode_wide (s : ByteArray) (i : Nat) (hi : i < s.size) (h : 128 ≤ (s.get! i).toNat) : ∀ k, i ≤ k → k < i + (Utf8.decode s i).2 → k < s.size ∧ 128 ≤ (s.get! k).toNat := by
  intro k hk hk'
  rw [decode_at] at hk'
  unfold decodeN at hk'
  have cases4 : ∀ n, k < i + n → n ≤ 4 → k = i ∨ (k = i + 1 ∧ 2 ≤ n) ∨ (k = i + 2 ∧ 3 ≤ n) ∨ (k = i + 3 ∧ 4 ≤ n) := fun n _ _ => by omega
  split at hk'
  · omega
  · split at hk'
    · next hc =>
      split at hk'
      · rcases cases4 2 hk' (by omega) with rfl | ⟨rfl, _⟩ | ⟨rfl, _⟩ | ⟨rfl, _⟩ <;> exact ⟨by omega, by omega⟩
      · obtain rfl : k = i := by simp at hk'; omega
        exact ⟨hi, h⟩
    · split at hk'
      · next hc =>
        split at hk'
        · rcases cases4 3 hk' (by omega) with rfl | ⟨rfl, _⟩ | ⟨rfl, _⟩ | ⟨rfl, _⟩ <;> exact ⟨by omega, by omega⟩
        · obtain rfl : k = i := by simp at hk'; omega
          exact ⟨hi, h⟩
      · split at hk'
        · next hc =>
          split at hk'
          · rcases cases4 4 hk' (by omega) with rfl | ⟨rfl, _⟩ | ⟨rfl, _⟩ | ⟨rfl, _⟩ <;> exact ⟨by omega, by omega⟩
          · obtain rfl : k = i := by simp at hk'; omega
            exact ⟨hi, h⟩
        · obtain rfl : k = i := by simp at hk'; omega
          exact ⟨hi, h⟩
theorem get_list (s : ByteArray) (k : Nat) (h : k < s.size) : s.data.toList[k]? = some (s.get! k) := by
  have e : s.get! k = s[k]'h := by
    show s.get! k = _
    simp [ByteArray.get!, getElem!_pos, h]
    rfl
  rw [e]
  exact Lib.data_getElem? s k h

/-- None of the first bytes is one that no name has. -/
def Fine (s : ByteArray) (i : Nat) : Prop := ∀ k b, k < i → s.data.toList[k]? = some b → b ≠ 47 ∧ b ≠ 0
theorem Fine.all {s : ByteArray} (h : Fine s s.size) : hasBad s.data.toList = false := hasBad_false.2 fun b hb => by
  obtain ⟨k, hk, rfl⟩ := List.mem_iff_getElem.1 hb
  exact h k _ (by rw [size_len]; exact hk) (List.getElem?_eq_getElem hk)
theorem Fine.wide {s : ByteArray} {i : Nat} (h : Fine s i) (hi : i < s.size) (ha : 128 ≤ (s.get! i).toNat) : Fine s (i + (Utf8.decode s i).2) := fun k b hk hb => by
  rcases Nat.lt_or_ge k i with hlt | hge
  · exact h k b hlt hb
  · obtain ⟨hks, hk128⟩ := decode_wide s i hi ha k hge hk
    rw [get_list s k hks] at hb
    injection hb with hb
    subst hb
    constructor
    · intro e; rw [e] at hk128; exact absurd hk128 (by decide)
    · intro e; rw [e] at hk128; exact absurd hk128 (by decide)
theorem Fine.next {s : ByteArray} {i : Nat} (h : Fine s i) (hi : i < s.size) (ha : s.get! i ≠ 47 ∧ s.get! i ≠ 0) : Fine s (i + 1) := fun k b hk hb => by
  rcases Nat.lt_or_ge k i with hlt | hge
  · exact h k b hlt hb
  · obtain rfl : k = i := by omega
    rw [get_list s k hi] at hb
    injection hb with hb
    subst hb
    exact ha
theorem hasBad_hit {s : ByteArray} {i : Nat} (hi : i < s.size) (h : s.get! i = 47 ∨ s.get! i = 0) : hasBad s.data.toList = true := by
  unfold hasBad
  rw [List.any_eq_true]
  refine ⟨s.get! i, ?_, ?_⟩
  · exact List.mem_of_getElem? (get_list s i hi)
  · rcases h with h | h <;> rw [h] <;> rfl
theorem indexByte_two (x : UInt8) : decide (0 ≤ Lib.indexByte [47, 0] x) = (x == 47 || x == 0) := by
  rw [← Lib.contains_iff_indexByte, contains_two]

set_option maxRecDepth 100000 in
set_option maxHeartbeats 4000000 in
theorem any_short (s : ByteArray) (w : World) (h8 : s.size ≤ 8) :
    Calls Tryd.prog 102 #[.string s, .string ⟨#[47, 0]⟩] w fun e w' => (∃ n : Int, e = .returned (.int .i64 n) ∧ decide (0 ≤ n) = hasBad s.data.toList) ∧ KF w w' := by
  have h8z : decide ((8 : Int) < (s.size : Int)) = false := decide_eq_false (by omega)
  go_enter Tryd.func102, Tryd.ntmps102
  go_wp2_with fail
  refine (Tryd.strings_shouldUseASCIISet _ _).mono ?_
  rintro e w' ⟨rfl, rfl⟩
  rw [h8z]
  go_wp2_with fail
  go_loopg [9, 10] s.size (fun g _ _ wx => ∃ i : Nat, s.size - i ≤ g ∧ i ≤ s.size ∧ wx.heap[w'.heap.size]? = some (.stringIter s i) ∧ KF w' wx ∧ Hid (Fine s i))
  case atStart => exact ⟨0, by omega, by omega, World.iter_heap _ _ _, KF.of_below ((Below.refl _ _).alloc (Nat.le_refl _) _), Lib.hid (fun k b hk => absurd hk (Nat.not_lt_zero _))⟩
  case round =>
    obtain ⟨i, hg, hi, hit, hk, HF⟩ := hrel
    rcases Nat.lt_or_ge i s.size with hlt | hge
    · have hnx := fun ty => run_next_any_at (P := Tryd.prog) wr w'.heap.size s i ty hit hlt
      have hgi : (s[i]'hlt) = s.get! i := by
        show _ = s.get! i
        simp [ByteArray.get!, getElem!_pos, hlt]
        rfl
      have hkn := fun k => KF.of_below (below_iterAt hk.below (Nat.le_refl _) s k)
      have hitn := fun k => iterAt_heap wr w'.heap.size s i k hit
      rcases Nat.lt_or_ge (s.get! i).toNat 128 with hasc | hhigh
      · have hd := decode_ascii s i hlt (by rw [hgi]; exact hasc)
        rw [hgi] at hd
        rw [hd] at hnx
        have hx := indexByte_two (s.get! i)
        have F2 := Lib.hid (fun h => HF.out.next hlt h)
        have FB := Lib.hid (fun h => hasBad_hit hlt h)
        clear HF hd hgi hk hit
        generalize s.get! i = x at hnx hx F2 FB hasc
        have hback : ((x.toNat : Int)).toNat.toUInt8 = x := by simp
        have hR := fun w1 => Tryd.strings_IndexRune_ascii ⟨#[47, 0]⟩ (x.toNat : Int) w1 (by omega) (by omega)
        rw [hback] at hR
        have hR' : ∀ w1, Calls Tryd.prog 107 #[.string ⟨#[47, 0]⟩, .int .i32 (x.toNat : Int)] w1 fun e w' => e = .returned (.int .i64 (Lib.indexByte [47, 0] x)) ∧ w' = w1 := hR
        clear hR
        generalize Lib.indexByte [47, 0] x = n at hx hR'
        cases hb : (x == 47 || x == 0)
        · rw [hb] at hx
          go_wp2_with fail
          refine (hR' _).mono ?_
          rintro e w1 ⟨rfl, rfl⟩
          go_wp2_with fail
          go_roundg (s.size - (i + 1))
          case measure => omega
          case rel =>
            refine ⟨i + 1, by omega, by omega, hitn _, hkn _, Lib.hid (F2.out ?_)⟩
            simp at hb
            exact hb
        · rw [hb] at hx
          go_wp2_with fail
          refine (hR' _).mono ?_
          rintro e w1 ⟨rfl, rfl⟩
          go_wp2_with fail
          go_ret
          refine ⟨⟨_, rfl, ?_⟩, hkn _⟩
          rw [FB.out (by simpa using hb)]
          simp
      · have F2 := Lib.hid (HF.out.wide hlt hhigh)
        obtain ⟨d1, d2⟩ := decode_high s i hlt (by rw [hgi]; exact hhigh)
        have hle : i + (Utf8.decode s i).2 ≤ s.size := by
          have := decode_wide s i hlt hhigh (i + (Utf8.decode s i).2 - 1) (by omega) (by omega)
          omega
        generalize Utf8.decode s i = d at *
        obtain ⟨r, wd⟩ := d
        simp only at d1 d2 hle F2 hnx
        have hfar := fun w1 => rune_far (r : Int) w1 (by omega)
        have hKn := hkn (i + wd)
        have hIn := hitn (i + wd)
        clear hkn hitn HF hgi hk hit hhigh
        go_wp2_with fail
        refine (hfar _).mono ?_
        rintro e w1 ⟨rfl, k1⟩
        go_wp2_with fail
        go_roundg (s.size - (i + wd))
        case measure => omega
        case rel =>
          refine ⟨i + wd, by omega, by omega, ?_, KF.trans hKn k1, F2⟩
          exact (k1.block _ (Array.getElem?_eq_some_iff.1 hIn).1 (fun h => h)).trans hIn
    · obtain rfl : i = s.size := by omega
      have hnx := fun ty => run_next_end_at (P := Tryd.prog) wr w'.heap.size s s.size ty hit (by omega)
      go_wp2_with fail
      go_ret
      exact ⟨⟨_, rfl, by rw [HF.out.all]; rfl⟩, hk⟩

set_option maxRecDepth 100000 in
theorem setZero : ∀ w, (zeroValue 147).run Tryd.prog w = .ok (.agg (Array.replicate 256 (.bool false))) w := fun w => by
  exact Tryd.zeroValue147 w
set_option maxRecDepth 100000 in
theorem any_any (s : ByteArray) (w : World) (h16 : s.size ≤ 16) :
    Calls Tryd.prog 102 #[.string s, .string ⟨#[47, 0]⟩] w fun e w' => (∃ n : Int, e = .returned (.int .i64 n) ∧ decide (0 ≤ n) = hasBad s.data.toList) ∧ KF w w' := by
  rcases Nat.lt_or_ge 8 s.size with h | h
  · refine (Tryd.strings_IndexAny_long setZero s ⟨#[47, 0]⟩ w (by decide) h (by omega) (by decide) (fun j b hj => ?_)).mono fun e w' ⟨he, hw⟩ => ⟨⟨_, he, indexAny_bad _⟩, ?_⟩
    · have hm := List.mem_of_getElem? hj
      have : b = 47 ∨ b = 0 := by simpa using hm
      rcases this with rfl | rfl <;> decide
    · rw [hw]
      exact KF.of_below (((Below.refl _ _).alloc (Nat.le_refl _) _).alloc (by simp) _)
  · exact any_short s w h
theorem contains_any (s : ByteArray) (w : World) (h16 : s.size ≤ 16) :
    Calls Tryd.prog 94 #[.string s, .string ⟨#[47, 0]⟩] w fun e w' => e = .returned (.bool (hasBad s.data.toList)) ∧ KF w w' := by
  have C := Lib.hid (any_any s w h16)
  go_enter Tryd.func94, Tryd.ntmps94
  go_wp2_with fail
  refine C.out.mono ?_
  rintro e w1 ⟨⟨n, rfl, hn⟩, k1⟩
  have hn := Lib.hid hn
  go_wp2_with fail
  go_ret
  refine ⟨?_, k1⟩
  rw [← hn.out]
  rfl

theorem name_of {s : ByteArray} (h1 : ¬ s.toList = []) (h2 : s.toList.isEmpty = false ∧ (s.size : Int) ≤ 16) (h3 : ¬ s.toList = [46]) (h4 : ¬ s.toList = [46, 46]) : decide (IsName s.data.toList) = !hasBad s.data.toList := by
  rw [Lib.toList_data] at h1 h3 h4
  have h16 := h2.2
  rw [size_len] at h16
  cases hb : hasBad s.data.toList
  · exact decide_eq_true ⟨hasBad_false.1 hb, List.length_pos_iff.2 h1, by omega, h3, h4⟩
  · exact decide_eq_false fun hn => by
      have := hasBad_false.2 hn.1
      rw [hb] at this
      cases this
theorem returned_no {l : Txt} (h : ¬ IsName l) : Ending.returned (Value.bool false) = .returned (.bool (decide (IsName l))) := by rw [decide_eq_false h]
set_option maxRecDepth 100000 in
theorem name_any (s : ByteArray) (w : World) :
    Calls Tryd.prog 83 #[.string s] w fun e w' => e = .returned (.bool (decide (IsName s.data.toList))) ∧ KF w w' := by
  go_enter Tryd.func83, Tryd.ntmps83
  go_wp2_with fail
  · have h : s.toList = [] := by assumption
    go_ret
    rw [Lib.toList_data] at h
    exact ⟨returned_no fun hn => hn.ne h, KF.refl _⟩
  · have h : s.toList.isEmpty = true ∨ (16 : Int) < s.size := by assumption
    have h0 : ¬ s.toList = [] := by assumption
    go_ret
    refine ⟨returned_no fun hn => ?_, KF.refl _⟩
    rcases h with h | h
    · exact h0 (List.isEmpty_iff.1 h)
    · rw [size_len] at h
      have := hn.2.2.1
      omega
  · have h : s.toList = [46] := by assumption
    go_ret
    rw [Lib.toList_data] at h
    exact ⟨returned_no fun hn => hn.2.2.2.1 h, KF.refl _⟩
  · have h : s.toList = [46, 46] := by assumption
    go_ret
    rw [Lib.toList_data] at h
    exact ⟨returned_no fun hn => hn.2.2.2.2 h, KF.refl _⟩
  · have h2 : s.toList.isEmpty = false ∧ (s.size : Int) ≤ 16 := by assumption
    have hN := Lib.hid (name_of (by assumption) h2 (by assumption) (by assumption))
    have c1 : (s.toList == [46]) = false := beq_eq_false_iff_ne.2 (by assumption)
    have c2 : (s.toList == [46, 46]) = false := beq_eq_false_iff_ne.2 (by assumption)
    refine (contains_any s w (by omega)).mono ?_
    rintro e w1 ⟨rfl, k1⟩
    go_wp2_with fail
    go_ret
    refine ⟨?_, k1⟩
    rw [hN.out]
    rfl
end Go.Proofs.YtklpebfkgdklmaaDoor
