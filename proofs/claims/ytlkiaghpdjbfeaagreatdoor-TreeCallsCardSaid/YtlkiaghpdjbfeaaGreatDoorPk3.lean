/-
  strings.ContainsAny at the two signs that no name has, of at most sixteen bytes of whatever kind; path.Name.
  path.Split: no path, or its names.
  slices.Sorted of maps.Keys, at both kinds of keys; bytes.Clone.
  The nodes that a tree has, as a row.
  The document's answer on names and rows of texts: Name, SameTexts, Join.
  The document's answer on a path's names: Split.
  WALK of the document's Inside.
  The reference's All.
  Closed facts of this seat that every law's row asks: a world in which the two tables of Go's library hold what their texts say; texts that came in.
-/
import Derived.Test.YtlkiaghpdjbfeaaGreatDoorPhRune
import Derived.Lib.DecodeN
import Derived.Lib.OthersKept
import Derived.Test.YtlkiaghpdjbfeaaGreatDoorIter
import Derived.Test.YtlkiaghpdjbfeaaGreatDoorPk0
import Derived.Test.YtlkiaghpdjbfeaaGreatDoorPk1
import Derived.Lib.SliceRun
import Derived.RegionTactic
import Derived.Test.YtlkiaghpdjbfeaaGreatDoorPhNodes
import Derived.Deep.CutRange
import Derived.Deep.DeepCutAuto
import Derived.Deep.QuietTactic
import Derived.BigQuiet
import Derived.Deep.DrawnRows
import Derived.Deep.LoopGhost
import Derived.Handy
import Derived.Test.YtlkiaghpdjbfeaaGreatDoorPk2
import Derived.Deep.RegionWith
import Derived.Test.YtlkiaghpdjbfeaaGreatDoorCards
import Derived.Test.YtlkiaghpdjbfeaaGreatDoorTie
import Derived.Deep.DeepHandedRow
import Derived.Shelf.Vars
namespace Go.Proofs.YtlkiaghpdjbfeaaGreatDoor
open Go.RowKit Go.Lib

/-- Has a text a sign that no name has? -/
def hasBad (l : Txt) : Bool := l.any fun b => b == 47 || b == 0
theorem hasBad_false {l : Txt} : hasBad l = false ↔ ∀ b ∈ l, b ≠ 47 ∧ b ≠ 0 := by
  simp [hasBad]
theorem contains_two (b : UInt8) : ([47, 0] : List UInt8).contains b = (b == 47 || b == 0) := by
  rw [List.contains_cons, List.contains_cons, List.contains_nil, Bool.or_false]
theorem indexAny_bad (l : Txt) : decide (0 ≤ Lib.indexAny l [47, 0]) = hasBad l := by
  induction l with
  | nil => rfl
  | cons b l ih =>
    have hge := Lib.indexAny_ge [47, 0] l
    unfold Lib.indexAny
    have hc : ([47, 0] : List UInt8).contains b = (b == 47 || b == 0) := contains_two b
    rw [hc]
    unfold hasBad at ih ⊢
    rw [List.any_cons]
    cases hb : (b == 47 || b == 0)
    · simp only [Bool.false_eq_true, if_false, Bool.false_or]
      rw [← ih]
      split
      · next h => rw [beq_iff_eq] at h; rw [h]
      · next h => rw [beq_iff_eq] at h; congr 1; exact propext ⟨fun _ => by omega, fun _ => by omega⟩
    · simp

/-- All that a sign beyond ASCII is of lies beyond ASCII. -/
theorem decode_wide (s : ByteArray) (i : Nat) (hi : i < s.size) (h : 128 ≤ (s.get! i).toNat) : ∀ k, i ≤ k → k < i + (Utf8.decode s i).2 → k < s.size ∧ 128 ≤ (s.get! k).toNat := by
  intro k hk hk'
  rw [decode_at] at hk'
  unfold decodeN at hk'
  have cases4 : ∀ n, k < i + n → n ≤ 4 → k = i ∨ (k = i + 1 ∧ 2 ≤ n) ∨ (k = i + 2 ∧ 3 ≤ n) ∨ (k = i + 3 ∧ 4 ≤ n) := fun n _ _ => by omega
  split at hk'
  · omega
  · split at hk'
    · next hc =>
      split at hk'
      · rcases cases4 2 hk' (by omega) with rfl | ⟨rfl, _⟩ | ⟨rfl, _⟩ | ⟨rfl, _⟩ <;> exact ⟨by omega, by omega⟩
      · obtain rfl : k = i := by simp at hk'; omega
        exact ⟨hi, h⟩
    · split at hk'
      · next hc =>
        split at hk'
        · rcases cases4 3 hk' (by omega) with rfl | ⟨rfl, _⟩ | ⟨rfl, _⟩ | ⟨rfl, _⟩ <;> exact ⟨by omega, by omega⟩
        · obtain rfl : k = i := by simp at hk'; omega
          exact ⟨hi, h⟩
      · split at hk'
        · next hc =>
          split at hk'
          · rcases cases4 4 hk' (by omega) with rfl | ⟨rfl, _⟩ | ⟨rfl, _⟩ | ⟨rfl, _⟩ <;> exact ⟨by omega, by omega⟩
          · obtain rfl : k = i := by simp at hk'; omega
            exact ⟨hi, h⟩
        · obtain rfl : k = i := by simp at hk'; omega
          exact ⟨hi, h⟩
theorem get_list (s : ByteArray) (k : Nat) (h : k < s.size) : s.data.toList[k]? = some (s.get! k) := by
  have e : s.get! k = s[k]'h := by
    show s.get! k = _
    simp [ByteArray.get!, getElem!_pos, h]
    rfl
  rw [e]
  exact Lib.data_getElem? s k h

/-- None of the first bytes is one that no name has. -/
def Fine (s : ByteArray) (i : Nat) : Prop := ∀ k b, k < i → s.data.toList[k]? = some b → b ≠ 47 ∧ b ≠ 0
theorem Fine.all {s : ByteArray} (h : Fine s s.size) : hasBad s.data.toList = false := hasBad_false.2 fun b hb => by
  obtain ⟨k, hk, rfl⟩ := List.mem_iff_getElem.1 hb
  exact h k _ (by rw [size_len]; exact hk) (List.getElem?_eq_getElem hk)
theorem Fine.wide {s : ByteArray} {i : Nat} (h : Fine s i) (hi : i < s.size) (ha : 128 ≤ (s.get! i).toNat) : Fine s (i + (Utf8.decode s i).2) := fun k b hk hb => by
  rcases Nat.lt_or_ge k i with hlt | hge
  · exact h k b hlt hb
  · obtain ⟨hks, hk128⟩ := decode_wide s i hi ha k hge hk
    rw [get_list s k hks] at hb
    injection hb with hb
    subst hb
    constructor
    · intro e; rw [e] at hk128; exact absurd hk128 (by decide)
    · intro e; rw [e] at hk128; exact absurd hk128 (by decide)
theorem Fine.next {s : ByteArray} {i : Nat} (h : Fine s i) (hi : i < s.size) (ha : s.get! i ≠ 47 ∧ s.get! i ≠ 0) : Fine s (i + 1) := fun k b hk hb => by
  rcases Nat.lt_or_ge k i with hlt | hge
  · exact h k b hlt hb
  · obtain rfl : k = i := by omega
    rw [get_list s k hi] at hb
    injection hb with hb
    subst hb
    exact ha
theorem hasBad_hit {s : ByteArray} {i : Nat} (hi : i < s.size) (h : s.get! i = 47 ∨ s.get! i = 0) : hasBad s.data.toList = true := by
  unfold hasBad
  rw [List.any_eq_true]
  refine ⟨s.get! i, ?_, ?_⟩
  · exact List.mem_of_getElem? (get_list s i hi)
  · rcases h with h | h <;> rw [h] <;> rfl
theorem indexByte_two (x : UInt8) : decide (0 ≤ Lib.indexByte [47, 0] x) = (x == 47 || x == 0) := by
  rw [← Lib.contains_iff_indexByte, contains_two]

set_option maxRecDepth 100000 in
set_option maxHeartbeats 4000000 in
theorem any_short (s : ByteArray) (w : World) (h8 : s.size ≤ 8) :
    Calls Tryz.prog 166 #[.string s, .string ⟨#[47, 0]⟩] w fun e w' => (∃ n : Int, e = .returned (.int .i64 n) ∧ decide (0 ≤ n) = hasBad s.data.toList) ∧ KF w w' := by
  have h8z : decide ((8 : Int) < (s.size : Int)) = false := decide_eq_false (by omega)
  go_enter Tryz.func166, Tryz.ntmps166
  go_wp2_with fail
  refine (Tryz.strings_shouldUseASCIISet _ _).mono ?_
  rintro e w' ⟨rfl, rfl⟩
  rw [h8z]
  go_wp2_with fail
  go_loopg [9, 10] s.size (fun g _ _ wx => ∃ i : Nat, s.size - i ≤ g ∧ i ≤ s.size ∧ wx.heap[w'.heap.size]? = some (.stringIter s i) ∧ KF w' wx ∧ Hid (Fine s i))
  case atStart => exact ⟨0, by omega, by omega, World.iter_heap _ _ _, KF.of_below ((Below.refl _ _).alloc (Nat.le_refl _) _), Lib.hid (fun k b hk => absurd hk (Nat.not_lt_zero _))⟩
  case round =>
    obtain ⟨i, hg, hi, hit, hk, HF⟩ := hrel
    rcases Nat.lt_or_ge i s.size with hlt | hge
    · have hnx := fun ty => run_next_any_at (P := Tryz.prog) wr w'.heap.size s i ty hit hlt
      have hgi : (s[i]'hlt) = s.get! i := by
        show _ = s.get! i
        simp [ByteArray.get!, getElem!_pos, hlt]
        rfl
      have hkn := fun k => KF.of_below (below_iterAt hk.below (Nat.le_refl _) s k)
      have hitn := fun k => iterAt_heap wr w'.heap.size s i k hit
      rcases Nat.lt_or_ge (s.get! i).toNat 128 with hasc | hhigh
      · have hd := decode_ascii s i hlt (by rw [hgi]; exact hasc)
        rw [hgi] at hd
        rw [hd] at hnx
        have hx := indexByte_two (s.get! i)
        have F2 := Lib.hid (fun h => HF.out.next hlt h)
        have FB := Lib.hid (fun h => hasBad_hit hlt h)
        clear HF hd hgi hk hit
        generalize s.get! i = x at hnx hx F2 FB hasc
        have hback : ((x.toNat : Int)).toNat.toUInt8 = x := by simp
        have hR := fun w1 => Tryz.strings_IndexRune_ascii ⟨#[47, 0]⟩ (x.toNat : Int) w1 (by omega) (by omega)
        rw [hback] at hR
        have hR' : ∀ w1, Calls Tryz.prog 177 #[.string ⟨#[47, 0]⟩, .int .i32 (x.toNat : Int)] w1 fun e w' => e = .returned (.int .i64 (Lib.indexByte [47, 0] x)) ∧ w' = w1 := hR
        clear hR
        generalize Lib.indexByte [47, 0] x = n at hx hR'
        cases hb : (x == 47 || x == 0)
        · rw [hb] at hx
          go_wp2_with fail
          refine (hR' _).mono ?_
          rintro e w1 ⟨rfl, rfl⟩
          go_wp2_with fail
          go_roundg (s.size - (i + 1))
          case measure => omega
          case rel =>
            refine ⟨i + 1, by omega, by omega, hitn _, hkn _, Lib.hid (F2.out ?_)⟩
            simp at hb
            exact hb
        · rw [hb] at hx
          go_wp2_with fail
          refine (hR' _).mono ?_
          rintro e w1 ⟨rfl, rfl⟩
          go_wp2_with fail
          go_ret
          refine ⟨⟨_, rfl, ?_⟩, hkn _⟩
          rw [FB.out (by simpa using hb)]
          simp
      · have F2 := Lib.hid (HF.out.wide hlt hhigh)
        obtain ⟨d1, d2⟩ := decode_high s i hlt (by rw [hgi]; exact hhigh)
        have hle : i + (Utf8.decode s i).2 ≤ s.size := by
          have := decode_wide s i hlt hhigh (i + (Utf8.decode s i).2 - 1) (by omega) (by omega)
          omega
        generalize Utf8.decode s i = d at *
        obtain ⟨r, wd⟩ := d
        simp only at d1 d2 hle F2 hnx
        have hfar := fun w1 => rune_far (r : Int) w1 (by omega)
        have hKn := hkn (i + wd)
        have hIn := hitn (i + wd)
        clear hkn hitn HF hgi hk hit hhigh
        go_wp2_with fail
        refine (hfar _).mono ?_
        rintro e w1 ⟨rfl, k1⟩
        go_wp2_with fail
        go_roundg (s.size - (i + wd))
        case measure => omega
        case rel =>
          refine ⟨i + wd, by omega, by omega, ?_, KF.trans hKn k1, F2⟩
          exact (k1.block _ (Array.getElem?_eq_some_iff.1 hIn).1 (fun h => h)).trans hIn
    · obtain rfl : i = s.size := by omega
      have hnx := fun ty => run_next_end_at (P := Tryz.prog) wr w'.heap.size s s.size ty hit (by omega)
      go_wp2_with fail
      go_ret
      exact ⟨⟨_, rfl, by rw [HF.out.all]; rfl⟩, hk⟩

set_option maxRecDepth 100000 in
theorem setZero : ∀ w, (zeroValue 219).run Tryz.prog w = .ok (.agg (Array.replicate 256 (.bool false))) w := fun w => by
  exact Tryz.zeroValue219 w
set_option maxRecDepth 100000 in
theorem any_any (s : ByteArray) (w : World) (h16 : s.size ≤ 16) :
    Calls Tryz.prog 166 #[.string s, .string ⟨#[47, 0]⟩] w fun e w' => (∃ n : Int, e = .returned (.int .i64 n) ∧ decide (0 ≤ n) = hasBad s.data.toList) ∧ KF w w' := by
  rcases Nat.lt_or_ge 8 s.size with h | h
  · refine (Tryz.strings_IndexAny_long setZero s ⟨#[47, 0]⟩ w (by decide) h (by omega) (by decide) (fun j b hj => ?_)).mono fun e w' ⟨he, hw⟩ => ⟨⟨_, he, indexAny_bad _⟩, ?_⟩
    · have hm := List.mem_of_getElem? hj
      have : b = 47 ∨ b = 0 := by simpa using hm
      rcases this with rfl | rfl <;> decide
    · rw [hw]
      exact KF.of_below (((Below.refl _ _).alloc (Nat.le_refl _) _).alloc (by simp) _)
  · exact any_short s w h
theorem contains_any (s : ByteArray) (w : World) (h16 : s.size ≤ 16) :
    Calls Tryz.prog 143 #[.string s, .string ⟨#[47, 0]⟩] w fun e w' => e = .returned (.bool (hasBad s.data.toList)) ∧ KF w w' := by
  have C := Lib.hid (any_any s w h16)
  go_enter Tryz.func143, Tryz.ntmps143
  go_wp2_with fail
  refine C.out.mono ?_
  rintro e w1 ⟨⟨n, rfl, hn⟩, k1⟩
  have hn := Lib.hid hn
  go_wp2_with fail
  go_ret
  refine ⟨?_, k1⟩
  rw [← hn.out]
  rfl

theorem name_of {s : ByteArray} (h1 : ¬ s.toList = []) (h2 : s.toList.isEmpty = false ∧ (s.size : Int) ≤ 16) (h3 : ¬ s.toList = [46]) (h4 : ¬ s.toList = [46, 46]) : decide (IsName s.data.toList) = !hasBad s.data.toList := by
  rw [Lib.toList_data] at h1 h3 h4
  have h16 := h2.2
  rw [size_len] at h16
  cases hb : hasBad s.data.toList
  · exact decide_eq_true ⟨hasBad_false.1 hb, List.length_pos_iff.2 h1, by omega, h3, h4⟩
  · exact decide_eq_false fun hn => by
      have := hasBad_false.2 hn.1
      rw [hb] at this
      cases this
theorem returned_no {l : Txt} (h : ¬ IsName l) : Ending.returned (Value.bool false) = .returned (.bool (decide (IsName l))) := by rw [decide_eq_false h]
set_option maxRecDepth 100000 in
theorem name_any (s : ByteArray) (w : World) :
    Calls Tryz.prog 116 #[.string s] w fun e w' => e = .returned (.bool (decide (IsName s.data.toList))) ∧ KF w w' := by
  go_enter Tryz.func116, Tryz.ntmps116
  go_wp2_with fail
  · have h : s.toList = [] := by assumption
    go_ret
    rw [Lib.toList_data] at h
    exact ⟨returned_no fun hn => hn.ne h, KF.refl _⟩
  · have h : s.toList.isEmpty = true ∨ (16 : Int) < s.size := by assumption
    have h0 : ¬ s.toList = [] := by assumption
    go_ret
    refine ⟨returned_no fun hn => ?_, KF.refl _⟩
    rcases h with h | h
    · exact h0 (List.isEmpty_iff.1 h)
    · rw [size_len] at h
      have := hn.2.2.1
      omega
  · have h : s.toList = [46] := by assumption
    go_ret
    rw [Lib.toList_data] at h
    exact ⟨returned_no fun hn => hn.2.2.2.1 h, KF.refl _⟩
  · have h : s.toList = [46, 46] := by assumption
    go_ret
    rw [Lib.toList_data] at h
    exact ⟨returned_no fun hn => hn.2.2.2.2 h, KF.refl _⟩
  · have h2 : s.toList.isEmpty = false ∧ (s.size : Int) ≤ 16 := by assumption
    have hN := Lib.hid (name_of (by assumption) h2 (by assumption) (by assumption))
    have c1 : (s.toList == [46]) = false := beq_eq_false_iff_ne.2 (by assumption)
    have c2 : (s.toList == [46, 46]) = false := beq_eq_false_iff_ne.2 (by assumption)
    refine (contains_any s w (by omega)).mono ?_
    rintro e w1 ⟨rfl, k1⟩
    go_wp2_with fail
    go_ret
    refine ⟨?_, k1⟩
    rw [hN.out]
    rfl
end Go.Proofs.YtlkiaghpdjbfeaaGreatDoor

namespace Go.Proofs.YtlkiaghpdjbfeaaGreatDoor
open Go.RowKit

theorem wrong_name (s : ByteArray) (w : World) : Calls Tryz.prog 115 #[.string s] w fun e w' => e = .returned (.bool (!decide (IsName s.data.toList))) ∧ KF w w' := by
  have C := Lib.hid (name_any s w)
  go_enter Tryz.func115, Tryz.ntmps115
  go_wp2_with fail
  refine C.out.mono ?_
  rintro e w1 ⟨rfl, k1⟩
  go_wp2_with fail
  go_ret
  exact ⟨rfl, k1⟩

theorem World.cellAt {w : World} {B n : Nat} {A : Option Addr} {xs : List ByteArray} (h : Strs w B A xs) (hn : n < xs.length) : ∃ b o, A = some ⟨b, o, none⟩ ∧ b < B ∧ w.cell? ⟨b, o + n, none⟩ = some (.string xs[n]) := h n _ (List.getElem?_eq_getElem hn)

set_option maxRecDepth 100000 in
theorem find_wrong (A : Option Addr) (xs : List ByteArray) (n c : Nat) (w : World) (hn : n = xs.length) (hb : n ≤ 1000000) (h : Strs w w.heap.size A xs) :
    Calls Tryz.prog 144 #[.slice A n c, .func (.func 115) #[] #[]] w fun e w' =>
      (∃ z : Int, e = .returned (.int .i64 z) ∧ decide (0 ≤ z) = !decide (∀ x ∈ xs, IsName x.data.toList)) ∧ KF w w' := by
  have HS := Lib.hid h
  clear h
  have HN := Lib.hid hn
  clear hn
  go_enter Tryz.func144, Tryz.ntmps144
  go_wp2_with fail
  go_loopg [5, 8] n (fun g _ i wr => ∃ k : Nat, k ≤ n ∧ n - k ≤ g ∧ i = .int .i64 k ∧ KF w wr ∧ Hid (∀ j, j < k → ∀ x, xs[j]? = some x → IsName x.data.toList))
  case atStart => exact ⟨0, by omega, by omega, rfl, KF.refl _, Lib.hid fun j hj => absurd hj (Nat.not_lt_zero _)⟩
  case round =>
    obtain ⟨k, hk, hg, rfl, kf, HA⟩ := hrel
    rcases Nat.lt_or_ge k n with hlt | hge
    · have hlt' : (k : Int) < (n : Int) := by omega
      have hkx : k < xs.length := by rw [← HN.out]; exact hlt
      obtain ⟨b, o, rfl, hbb, hc⟩ := World.cellAt (HS.out.kept kf) hkx
      have HX := Lib.hid (List.getElem?_eq_getElem hkx)
      generalize xs[k] = x at hc HX
      have HW := Lib.hid (wrong_name x)
      by_cases hname : IsName x.data.toList
      · rw [decide_eq_true hname] at HW
        go_wp2_with fail
        refine (HW.out wr).mono ?_
        rintro e w1 ⟨rfl, k1⟩
        go_wp2_with fail
        go_roundg (n - (k + 1))
        case measure => omega
        case rel =>
          refine ⟨k + 1, by omega, by omega, by go_num, kf.trans k1, Lib.hid fun j hj y hy => ?_⟩
          rcases Nat.lt_or_ge j k with h | h
          · exact HA.out j h y hy
          · obtain rfl : j = k := by omega
            rw [HX.out] at hy
            injection hy with hy
            subst hy
            exact hname
      · rw [decide_eq_false hname] at HW
        go_wp2_with fail
        refine (HW.out wr).mono ?_
        rintro e w1 ⟨rfl, k1⟩
        go_wp2_with fail
        go_ret
        refine ⟨⟨_, rfl, ?_⟩, kf.trans k1⟩
        have hno : decide (∀ x ∈ xs, IsName x.data.toList) = false := decide_eq_false fun h => hname (h x (List.mem_of_getElem? HX.out))
        rw [hno]
        exact decide_eq_true (by omega)
    · obtain rfl : k = n := by omega
      have hlt' : ¬ (k : Int) < (k : Int) := by omega
      go_wp2_with fail
      go_ret
      refine ⟨⟨_, rfl, ?_⟩, kf⟩
      have : ∀ x ∈ xs, IsName x.data.toList := fun x hx => by
        obtain ⟨j, hj, rfl⟩ := List.mem_iff_getElem.1 hx
        exact HA.out j (by rw [HN.out]; exact hj) _ (List.getElem?_eq_getElem hj)
      rw [decide_eq_true this]
      rfl

theorem has_wrong (A : Option Addr) (xs : List ByteArray) (n c : Nat) (w : World) (hn : n = xs.length) (hb : n ≤ 1000000) (h : Strs w w.heap.size A xs) :
    Calls Tryz.prog 117 #[.slice A n c, .func (.func 115) #[] #[]] w fun e w' =>
      e = .returned (.bool (!decide (∀ x ∈ xs, IsName x.data.toList))) ∧ KF w w' := by
  have C := Lib.hid (find_wrong A xs n c w hn hb h)
  clear h hn
  go_enter Tryz.func117, Tryz.ntmps117
  go_wp2_with fail
  refine C.out.mono ?_
  rintro e w1 ⟨⟨z, rfl, hz⟩, k1⟩
  have HZ := Lib.hid hz
  clear hz
  go_wp2_with fail
  go_ret
  refine ⟨?_, k1⟩
  rw [← HZ.out]
  rfl

/-- What a package-level variable of Go's library holds matters to none of these calls; but it holds a number. -/
def Env (w : World) : Prop := ∃ m : Int, w.cell? ⟨1, 0, none⟩ = some (.int .i64 m)
theorem Env.kept {w w' : World} (h : Env w) (k : KF w w') : Env w' := by
  obtain ⟨m, hm⟩ := h
  exact ⟨m, (k.cell (World.block_lt_of_cell? _ _ hm)).trans hm⟩

/-- The row that strings.SplitN lays. -/
theorem Strs.laid (w : World) (xs : List ByteArray) (N : Nat) (t : TypeId) : Strs (w.alloc (.cells (Lib.cellsOf xs N) t)) (w.heap.size + 1) (some ⟨w.heap.size, 0, none⟩) xs := fun j x hj => by
  refine ⟨_, _, rfl, by omega, ?_⟩
  rw [Nat.zero_add, World.cell?_alloc_mark]
  have hlt : j < xs.length := by
    rcases Nat.lt_or_ge j xs.length with h | h
    · exact h
    · rw [List.getElem?_eq_none h] at hj; cases hj
  simp only [Lib.cellsOf, List.getElem?_toArray]
  rw [List.getElem?_append_left (by simpa using hlt), List.getElem?_map, hj]
  rfl
/-- What strings.SplitN gives, as lists. -/
theorem splitB_lists (k : Nat) (s : ByteArray) : Lib.splitB ⟨#[47]⟩ 0 k s = (Lib.splitK [47] 0 k s.data.toList).map ba := by
  have := Lib.splitB_data ⟨#[47]⟩ 0 k s
  have h2 := congrArg (List.map ba) this
  rw [List.map_map] at h2
  have e : (ba ∘ fun x : ByteArray => x.data.toList) = id := by funext x; exact ba_data x
  rw [e, List.map_id] at h2
  exact h2

theorem prefix_slash (r : Txt) : Lib.hasPrefix (47 :: r) [47] = true := by simp [Lib.hasPrefix]
theorem trim_slash (r : Txt) : Lib.trimPrefix (47 :: r) [47] = r := by simp [Lib.trimPrefix, Lib.hasPrefix]
theorem prefix_other {l : Txt} (h : ∀ r, l ≠ 47 :: r) : Lib.hasPrefix l [47] = false := by
  cases l with
  | nil => rfl
  | cons b r =>
    have hb : b ≠ 47 := fun e => h r (by rw [e])
    show [47].isPrefixOf (b :: r) = false
    rw [List.isPrefixOf, beq_eq_false_iff_ne.2 hb.symm]
    rfl

/-- What path.Split answers. -/
def Splits (l : Txt) (w : World) (e : Ending) (w' : World) : Prop := KF w w' ∧
  ((pathM l = none ∧ e = .returned (.tuple #[.slice none 0 0, .int .i64 20])) ∨
   ∃ ps A c, pathM l = some ps ∧ e = .returned (.tuple #[.slice A ps.length c, .int .i64 0]) ∧ ps.length ≤ c ∧ c ≤ 9 ∧ Strs w' w'.heap.size A (ps.map ba))

set_option maxRecDepth 100000 in
theorem split_root (w : World) : Calls Tryz.prog 83 #[.string ⟨#[47]⟩] w (Splits [47] w) := by
  go_enter Tryz.func83, Tryz.ntmps83
  go_wp2_with fail
  go_ret2
  exact ⟨KF.refl _, Or.inr ⟨[], none, 0, rfl, rfl, by simp, by omega, Strs.nil⟩⟩
set_option maxRecDepth 100000 in
theorem split_bare (s : ByteArray) (w : World) (h : ∀ r, s.data.toList ≠ 47 :: r) : Calls Tryz.prog 83 #[.string s] w (Splits s.data.toList w) := by
  have hp := prefix_other h
  have hn : (s.toList == [47]) = false := beq_eq_false_iff_ne.2 (by rw [Lib.toList_data]; exact h [])
  have hm : pathM s.data.toList = none := by
    cases hl : s.data.toList with
    | nil => rfl
    | cons b r => rw [pathM, if_pos (fun e => h r (by rw [hl, e]))]
  have HM := Lib.hid hm
  have C := Lib.hid (Tryz.strings_CutPrefix s ⟨#[47]⟩ w)
  have hp' : Lib.hasPrefix s.data.toList (ByteArray.mk #[47]).data.toList = false := hp
  rw [hp'] at C
  clear h hp hp' hm
  go_enter Tryz.func83, Tryz.ntmps83
  go_wp2_with fail
  refine C.out.mono ?_
  rintro e w1 ⟨rfl, rfl⟩
  go_wp2_with fail
  go_ret2
  exact ⟨KF.refl _, Or.inl ⟨HM.out, rfl⟩⟩

set_option maxRecDepth 100000 in
theorem split_led (r : Txt) (w : World) (hr : r ≠ []) (hs : r.length ≤ 1000000) (he : Env w) : Calls Tryz.prog 83 #[.string (ba (47 :: r))] w (Splits (47 :: r) w) := by
  obtain ⟨m, hm⟩ := he
  have C := Lib.hid (Tryz.strings_CutPrefix (ba (47 :: r)) ⟨#[47]⟩ w)
  have hp' : Lib.hasPrefix (ba (47 :: r)).data.toList (ByteArray.mk #[47]).data.toList = true := prefix_slash r
  have ht' : Lib.trimPrefix (ba (47 :: r)).data.toList (ByteArray.mk #[47]).data.toList = r := trim_slash r
  rw [hp', ht'] at C
  have D := Tryz.strings_SplitN (ba r) ⟨#[47]⟩ 9 m w (by rw [ba_size]; omega) hm (by decide) (by omega) (by omega)
  rw [splitB_lists, ba_size] at D
  have HD := Lib.hid D
  clear D
  have hn : ((ba (47 :: r)).toList == [47]) = false := beq_eq_false_iff_ne.2 (by
    rw [Lib.toList_data]
    intro h
    have h' : (47 :: r : Txt) = [47] := h
    injection h' with _ h'
    exact hr h')
  obtain ⟨q1, q2⟩ := split9 r
  have hrl : (ba r).data.toList = r := rfl
  rw [hrl] at HD
  have HR := Lib.hid hr
  clear hp' ht' hrl hr
  generalize ba (47 :: r) = S0 at hn C ⊢
  generalize Lib.splitK [47] 0 (min 9 (r.length + 1) - 1) r = q at q1 q2 HD
  have hNm : min 9 (r.length + 1) ≤ 9 := by omega
  have hNp : (pieces r).length ≤ r.length + 1 := pieces_length_le r
  rcases Nat.lt_or_ge 8 (pieces r).length with h8 | h8
  · have hq9 := q2 h8
    have hm : pathM (47 :: r) = none := by
      rw [pathM, if_neg (by simp), if_neg HR.out, if_neg (fun h => by omega)]
    have HM := Lib.hid hm
    have hl : (q.map ba).length = 9 := by rw [List.length_map]; exact hq9
    generalize q.map ba = xs at hl HD
    clear q1 q2 hm
    go_enter Tryz.func83, Tryz.ntmps83
    go_wp2_with fail
    refine C.out.mono ?_
    rintro e w1 ⟨rfl, rfl⟩
    go_wp2_with fail
    refine HD.out.mono ?_
    rintro e w2 ⟨rfl, rfl⟩
    rw [hl]
    go_wp2_with fail
    go_ret2
    exact ⟨KF.of_below ((Below.refl _ _).alloc (Nat.le_refl _) _), Or.inl ⟨HM.out, rfl⟩⟩
  · have hq := q1 h8
    have hl : (q.map ba).length = (pieces r).length := by rw [List.length_map, hq]
    have hS := fun (w0 : World) => Strs.laid w0 (q.map ba) (min 9 (r.length + 1)) 9
    have hw := fun w0 (c0 : Nat) (hst : Strs w0 w0.heap.size (some ⟨w.heap.size, 0, none⟩) (q.map ba)) => has_wrong (some ⟨w.heap.size, 0, none⟩) (q.map ba) (q.map ba).length c0 w0 rfl (by omega) hst
    have hall : decide (∀ x ∈ q.map ba, IsName x.data.toList) = decide (∀ p ∈ pieces r, IsName p) := by
      rw [hq]
      congr 1
      simp
    rw [hall] at hw
    have HS := Lib.hid hS
    have HW := Lib.hid hw
    have HQ := Lib.hid hq
    clear hS hw hall hq
    have hn8 : (q.map ba).length ≤ 8 := by omega
    have hd8 : decide ((8 : Int) < ((q.map ba).length : Int)) = false := decide_eq_false (by omega)
    have HL := Lib.hid hl
    clear hl
    generalize hx : q.map ba = xs at HS HW HD hn8 hd8 HL
    have HX := Lib.hid hx
    clear hx
    go_enter Tryz.func83, Tryz.ntmps83
    go_wp2_with fail
    refine C.out.mono ?_
    rintro e w1 ⟨rfl, rfl⟩
    go_wp2_with fail
    refine HD.out.mono ?_
    rintro e w2 ⟨rfl, rfl⟩
    have kA : KF w1 (w1.alloc (.cells (Lib.cellsOf xs (min 9 (r.length + 1))) 9)) := KF.of_below ((Below.refl _ _).alloc (Nat.le_refl _) _)
    have sA : Strs (w1.alloc (.cells (Lib.cellsOf xs (min 9 (r.length + 1))) 9)) (w1.alloc (.cells (Lib.cellsOf xs (min 9 (r.length + 1))) 9)).heap.size (some ⟨w1.heap.size, 0, none⟩) xs := (HS.out w1).more (by simp)
    have hsz : w1.heap.size = w1.heap.size := rfl
    generalize w1.alloc (.cells (Lib.cellsOf xs (min 9 (r.length + 1))) 9) = w2 at kA sA
    have SA := Lib.hid sA
    clear sA
    by_cases hall : ∀ p ∈ pieces r, IsName p
    · rw [decide_eq_true hall] at HW
      have HM := Lib.hid (show pathM (47 :: r) = some (pieces r) by rw [pathM, if_neg (by simp), if_neg HR.out, if_pos ⟨h8, hall⟩])
      go_wp2_with fail
      refine (HW.out _ _ SA.out).mono ?_
      rintro e w3 ⟨rfl, k3⟩
      go_wp2_with fail
      go_ret2
      refine ⟨kA.trans k3, Or.inr ⟨pieces r, some ⟨w1.heap.size, 0, none⟩, min 9 (r.length + 1), HM.out, ?_, ?_, hNm, ?_⟩⟩
      · rw [← HL.out]; rfl
      · omega
      · rw [← HQ.out, HX.out]
        exact SA.out.kept k3
    · rw [decide_eq_false hall] at HW
      have HM := Lib.hid (show pathM (47 :: r) = none by rw [pathM, if_neg (by simp), if_neg HR.out, if_neg (fun h => hall h.2)])
      go_wp2_with fail
      refine (HW.out _ _ SA.out).mono ?_
      rintro e w3 ⟨rfl, k3⟩
      go_wp2_with fail
      go_ret2
      exact ⟨kA.trans k3, Or.inl ⟨HM.out, rfl⟩⟩
theorem split_any (s : ByteArray) (w : World) (hs : s.size ≤ 1000000) (he : Env w) : Calls Tryz.prog 83 #[.string s] w (Splits s.data.toList w) := by
  rw [size_len] at hs
  rw [← ba_data s]
  generalize s.data.toList = l at hs
  match l with
  | [] => exact split_bare (ba []) w (fun r h => by cases h)
  | b :: r =>
    by_cases hb : b = 47
    · subst hb
      by_cases hr : r = []
      · subst hr; exact split_root w
      · exact split_led r w hr (by simp at hs; omega) he
    · exact split_bare (ba (b :: r)) w (fun r' h => hb (by injection h))
end Go.Proofs.YtlkiaghpdjbfeaaGreatDoor

namespace Go.Proofs.YtlkiaghpdjbfeaaGreatDoor
open Go.RowKit Go.Maps Go.Sort Go.Shelf

theorem strSorts (m : Nat) : AnyZ.SortsIn Tryz.prog Tryz.sorted44_ren Fence.wide m :=
  ⟨fun blk off cap ss W hH hblk hsz => callsIn_wide.2 (AnyM.slices_Sort_string Tryz.sort85 blk off cap ss W hH hblk hsz),
   fun p cap W => callsIn_wide.2 (AnyM.slices_Sort_string_none Tryz.sort85 p cap W)⟩
theorem intSorts (m : Nat) : AnyZI.SortsIn Tryz.prog Tryz.sorted28_ren Fence.wide m :=
  ⟨fun blk off cap ss W hH hblk hsz => callsIn_wide.2 (AnyM.slices_Sort_int Tryz.sort61 blk off cap ss W hH hblk hsz),
   fun p cap W => callsIn_wide.2 (AnyM.slices_Sort_int_none Tryz.sort61 p cap W)⟩

theorem strKeys_any (mb : Option Nat) (W : World) : Calls Tryz.prog 45 #[.map mb] W fun e w' =>
    e = .returned (.func (.func 86) #[] #[.pointer (some ⟨W.heap.size, 0, none⟩)]) ∧ w' = W.alloc (.cells #[.map mb] 70) :=
  callsIn_wide.1 (AnyZ.keys_in Tryz.keys45 Fence.wide 5 trivial rfl mb W)
theorem intKeys_any (mb : Option Nat) (W : World) : Calls Tryz.prog 29 #[.map mb] W fun e w' =>
    e = .returned (.func (.func 62) #[] #[.pointer (some ⟨W.heap.size, 0, none⟩)]) ∧ w' = W.alloc (.cells #[.map mb] 50) :=
  callsIn_wide.1 (AnyZI.keys_in Tryz.keys29 Fence.wide 5 trivial rfl mb W)

set_option maxHeartbeats 1000000 in
theorem strSorted_any (b nn : Nat) (D0 : VD) (w : World) (hown : w.ownsMap Tryz.prog 9 anyElem b nn D0) (hmax : Maps.size D0 ≤ 1000000) :
    Calls Tryz.prog 44 #[.func (.func 86) #[] #[.pointer (some ⟨w.heap.size, 0, none⟩)]] (w.alloc (.cells #[.map (some b)] 70)) fun e w' => ∃ (v : Value) (ss : List (List UInt8)), e = .returned v ∧ ss.Perm (strKeys D0) ∧
      w'.ownsRow 0 9 1 v ss.length ((ss.mergeSort (fun x y => decide (x ≤ y))).map encStr) ∧ (∀ k, v.ownBlock = some k → w.heap.size ≤ k) ∧ KF w w' := by
  have hbl := hown.lt
  have hseq : SeqGives Fence.wide 2 Tryz.prog 86 #[.pointer (some ⟨w.heap.size, 0, none⟩)] encStr (fun ss => ss.Perm (strKeys D0)) (Maps.size D0) (w.alloc (.cells #[.map (some b)] 70)) :=
    AnyZ.keys_gives (ρ := Tryz.keys45_ren) { Tryz.keys45 with } Fence.wide _ trivial rfl (by omega) w.heap.size b nn D0 _ (by simp) (by simp) (by
      obtain ⟨es, clock, hb, Ft, hs, hD⟩ := hown
      exact ⟨es, clock, (Below.heap_alloc _ _ b hbl).trans hb, Ft, hs, hD⟩)
  have C := AnyZ.sorted_in Tryz.sorted44 Fence.wide 5 trivial trivial trivial trivial rfl (by omega) (strSorts _) (enters_of Tryz.func85 (by kernel_rfl) rfl) 86 #[.pointer (some ⟨w.heap.size, 0, none⟩)] trivial (enters_of Tryz.func86 (by kernel_rfl) rfl) _ _ (by simp only [maxLen]; omega) (by omega) _ hseq
  refine (callsIn_wide.1 C).mono ?_
  rintro e w' ⟨v, ss, rfl, hS, hrow, hnil, hb⟩
  have hk : KF w w' := KF.trans ((KF.refl w).alloc _) (KF.of_below hb)
  refine ⟨v, ss, rfl, hS, ⟨hrow.1, ?_⟩, fun k hk => ?_, hk⟩
  · rcases hrow.2 with h | ⟨g, cap, cur, h1, h2, h3⟩
    · exact .inl h
    · exact .inr ⟨g, cap, cur, h1, Nat.zero_le _, h3⟩
  · have := (World.ownsRow.lt hrow k hk).1
    simp at this
    omega
set_option maxHeartbeats 1000000 in
theorem intSorted_any (b nn : Nat) (D0 : VD) (w : World) (hown : w.ownsMap Tryz.prog 3 anyElem b nn D0) (hmax : Maps.size D0 ≤ 1000000) :
    Calls Tryz.prog 28 #[.func (.func 62) #[] #[.pointer (some ⟨w.heap.size, 0, none⟩)]] (w.alloc (.cells #[.map (some b)] 50)) fun e w' => ∃ (v : Value) (ss : List Int), e = .returned v ∧ ss.Perm (intKeys D0) ∧
      w'.ownsRow 0 3 1 v ss.length ((ss.mergeSort (fun x y => decide (x ≤ y))).map encZ) ∧ (∀ k, v.ownBlock = some k → w.heap.size ≤ k) ∧ KF w w' := by
  have hbl := hown.lt
  have hseq : SeqGives Fence.wide 2 Tryz.prog 62 #[.pointer (some ⟨w.heap.size, 0, none⟩)] encZ (fun ss => ss.Perm (intKeys D0)) (Maps.size D0) (w.alloc (.cells #[.map (some b)] 50)) :=
    AnyZI.keys_gives (ρ := Tryz.keys29_ren) { Tryz.keys29 with } Fence.wide _ trivial rfl (by omega) w.heap.size b nn D0 _ (by simp) (by simp) (by
      obtain ⟨es, clock, hb, Ft, hs, hD⟩ := hown
      exact ⟨es, clock, (Below.heap_alloc _ _ b hbl).trans hb, Ft, hs, hD⟩)
  have C := AnyZI.sorted_in Tryz.sorted28 Fence.wide 5 trivial trivial trivial trivial rfl (by omega) (intSorts _) (enters_of Tryz.func61 (by kernel_rfl) rfl) 62 #[.pointer (some ⟨w.heap.size, 0, none⟩)] trivial (enters_of Tryz.func62 (by kernel_rfl) rfl) _ _ (by simp only [maxLen]; omega) (by omega) _ hseq
  refine (callsIn_wide.1 C).mono ?_
  rintro e w' ⟨v, ss, rfl, hS, hrow, hnil, hb⟩
  have hk : KF w w' := KF.trans ((KF.refl w).alloc _) (KF.of_below hb)
  refine ⟨v, ss, rfl, hS, ⟨hrow.1, ?_⟩, fun k hk => ?_, hk⟩
  · rcases hrow.2 with h | ⟨g, cap, cur, h1, h2, h3⟩
    · exact .inl h
    · exact .inr ⟨g, cap, cur, h1, Nat.zero_le _, h3⟩
  · have := (World.ownsRow.lt hrow k hk).1
    simp at this
    omega
end Go.Proofs.YtlkiaghpdjbfeaaGreatDoor

namespace Go.Proofs.YtlkiaghpdjbfeaaGreatDoor

/-- Which numbers have nodes; the nodes. -/
def having (t : Tr) : List Nat := (List.range 64).filter fun n => decide ((t n).kind ≠ 0)
def nodeV (t : Tr) (n : Nat) : NodeV := ⟨n, (t n).kind, (t n).links, (t n).data, (t n).entries⟩
def nodesOf (t : Tr) : List NodeV := (having t).map (nodeV t)
theorem having_mem {t : Tr} {n : Nat} : n ∈ having t ↔ n < 64 ∧ (t n).kind ≠ 0 := by
  unfold having
  rw [List.mem_filter, List.mem_range]
  simp
theorem having_le (t : Tr) : (having t).length ≤ 64 := by
  have := List.length_filter_le (fun n => decide ((t n).kind ≠ 0)) (List.range 64)
  rw [List.length_range] at this
  exact this
end Go.Proofs.YtlkiaghpdjbfeaaGreatDoor

namespace Go.Proofs.YtlkiaghpdjbfeaaGreatDoor
open Go.RowKit

set_option maxRecDepth 100000 in
theorem rname_same (s : ByteArray) (w : World) (hs : s.size ≤ 9223372036854775807) : Calls Tryz.prog 122 #[.string s] w fun e w' => e = .returned (.bool (decide (IsName s.data.toList))) ∧ w' = w := by
  go_enter Tryz.func122, Tryz.ntmps122
  go_wp2_with fail
  go_loopg [3] s.size (fun g i wr => ∃ k : Nat, k ≤ s.size ∧ s.size - k ≤ g ∧ i = .int .i64 k ∧ wr = w ∧ Hid (Fine s k))
  case atStart => exact ⟨0, by omega, by omega, rfl, rfl, Lib.hid fun k b hk => absurd hk (Nat.not_lt_zero _)⟩
  case round =>
    obtain ⟨k, hk, hg, rfl, rfl, HF⟩ := hrel
    rcases Nat.lt_or_ge k s.size with hlt | hge
    · have hlt' : (k : Int) < (s.size : Int) := by omega
      have hgi : (s[k]'hlt) = s.get! k := by
        show _ = s.get! k
        simp [ByteArray.get!, getElem!_pos, hlt]
        rfl
      have F2 := Lib.hid (fun h => HF.out.next hlt h)
      have FB := Lib.hid (fun h => hasBad_hit hlt h)
      have n47 : ∀ h : (((s.get! k).toNat : Int) == 47) = true, s.get! k = 47 := fun h => by
        have := of_decide_eq_true (by simpa using h) (p := (((s.get! k).toNat : Int) = 47))
        exact UInt8.toNat_inj.1 (by simpa using (by omega : (s.get! k).toNat = 47))
      have n0 : ∀ h : (((s.get! k).toNat : Int) == 0) = true, s.get! k = 0 := fun h => by
        have := of_decide_eq_true (by simpa using h) (p := (((s.get! k).toNat : Int) = 0))
        exact UInt8.toNat_inj.1 (by simpa using (by omega : (s.get! k).toNat = 0))
      have N47 := Lib.hid n47
      have N0 := Lib.hid n0
      clear n47 n0
      go_wp2_with fail
      · have h : ((s.get! k).toNat : Int) = 47 := by assumption
        go_ret
        refine ⟨returned_no fun hn => ?_, rfl⟩
        have := FB.out (Or.inl (N47.out (by rw [h]; rfl)))
        rw [hasBad_false.2 hn.1] at this
        cases this
      · have h : (((s.get! k).toNat : Int) == 47) = true ∨ (((s.get! k).toNat : Int) == 0) = true := by assumption
        go_ret
        refine ⟨returned_no fun hn => ?_, rfl⟩
        have : hasBad s.data.toList = true := by
          rcases h with h | h
          · exact FB.out (Or.inl (N47.out h))
          · exact FB.out (Or.inr (N0.out h))
        rw [hasBad_false.2 hn.1] at this
        cases this
      · have h : (((s.get! k).toNat : Int) == 47) = false ∧ (((s.get! k).toNat : Int) == 0) = false := by assumption
        go_roundg (s.size - (k + 1))
        case measure => omega
        case rel =>
          refine ⟨k + 1, by omega, by omega, by go_num, rfl, Lib.hid (F2.out ⟨fun e => ?_, fun e => ?_⟩)⟩
          · rw [e] at h; exact absurd h.1 (by decide)
          · rw [e] at h; exact absurd h.2 (by decide)
    · obtain rfl : k = s.size := by omega
      have hlt' : ¬ (s.size : Int) < (s.size : Int) := by omega
      have HB := Lib.hid HF.out.all
      go_wp2_with fail
      · have h : s.toList = [46] := by assumption
        go_ret
        rw [Lib.toList_data] at h
        exact ⟨returned_no fun hn => hn.2.2.2.1 h, rfl⟩
      · have h : ¬ s.toList = [46] := by assumption
        have h1 : (1 : Int) ≤ s.size := by assumption
        have h16 : (s.size : Int) ≤ 16 := by assumption
        go_ret
        refine ⟨?_, rfl⟩
        show Ending.returned (Value.bool (!(s.toList == [46]) && !(s.toList == [46, 46]))) = _
        rw [beq_eq_false_iff_ne.2 h]
        rw [Lib.toList_data] at h ⊢
        rw [size_len] at h1 h16
        congr 2
        by_cases h2 : s.data.toList = [46, 46]
        · rw [h2]
          rfl
        · rw [beq_eq_false_iff_ne.2 h2]
          symm
          exact decide_eq_true ⟨hasBad_false.1 HB.out, by omega, by omega, h, h2⟩
      · have h16 : (16 : Int) < s.size := by assumption
        go_ret
        rw [size_len] at h16
        exact ⟨returned_no fun hn => by have := hn.2.2.1; omega, rfl⟩
      · have h1 : (s.size : Int) < 1 := by assumption
        go_ret
        rw [size_len] at h1
        exact ⟨returned_no fun hn => by have := hn.2.1; omega, rfl⟩
theorem rname_any (s : ByteArray) (w : World) (hs : s.size ≤ 9223372036854775807) : Calls Tryz.prog 122 #[.string s] w fun e w' => e = .returned (.bool (decide (IsName s.data.toList))) ∧ KF w w' :=
  (rname_same s w hs).mono fun _ _ ⟨he, hw⟩ => ⟨he, hw ▸ KF.refl w⟩

theorem take_texts {xs ys : List Txt} {k : Nat} (h : xs.take k = ys.take k) (q1 : k < xs.length) (q2 : k < ys.length) (he : xs[k] = ys[k]) : xs.take (k + 1) = ys.take (k + 1) := by
  rw [List.take_add_one, List.take_add_one, h, List.getElem?_eq_getElem q1, List.getElem?_eq_getElem q2, he]
set_option maxRecDepth 100000 in
theorem texts_same (A A' : Option Addr) (n n' c c' : Nat) (xs ys : List Txt) (w : World) (hn : n = xs.length) (hn' : n' = ys.length) (hb : n ≤ 1000000000) (hb' : n' ≤ 1000000000) (h : Strs w w.heap.size A (xs.map ba)) (h' : Strs w w.heap.size A' (ys.map ba)) :
    Calls Tryz.prog 22 #[.slice A n c, .slice A' n' c'] w fun e w' => e = .returned (.bool (decide (xs = ys))) ∧ KF w w' := by
  have HS := Lib.hid h
  have HS' := Lib.hid h'
  have HN := Lib.hid hn
  have HN' := Lib.hid hn'
  clear h h' hn hn'
  by_cases hl : n = n'
  · subst hl
    go_enter Tryz.func22, Tryz.ntmps22
    go_wp2_with fail
    go_loopg [5] n (fun g i wr => ∃ k nq : Nat, k ≤ n ∧ n - k ≤ g ∧ i = .int .i64 k ∧ wr = w.drewN nq ∧ Hid (xs.take k = ys.take k))
    case atStart => exact ⟨0, 0, by omega, by omega, rfl, rfl, Lib.hid rfl⟩
    case round =>
      obtain ⟨k, nq, hk, hg, rfl, rfl, HT⟩ := hrel
      rcases Nat.lt_or_ge k n with hlt | hge
      · have hlt' : (k : Int) < (n : Int) := by omega
        have q1 : k < xs.length := by rw [← HN.out]; exact hlt
        have q2 : k < ys.length := by rw [← HN'.out]; exact hlt
        obtain ⟨b, o, rfl, hbb, hc⟩ := World.cellAt HS.out (n := k) (by rw [List.length_map]; exact q1)
        obtain ⟨b', o', rfl, hbb', hc'⟩ := World.cellAt HS'.out (n := k) (by rw [List.length_map]; exact q2)
        rw [List.getElem_map] at hc hc'
        by_cases he : xs[k] = ys[k]
        · have HX := Lib.hid (take_texts HT.out q1 q2 he)
          rw [he] at hc
          generalize ba ys[k] = x at hc hc'
          go_wp2
          go_quiet (fail)
          go_wp2
          go_roundg (n - (k + 1))
          case measure => omega
          case rel => exact ⟨k + 1, _, by omega, by omega, by go_num, rfl, HX.out⟩
        · have hbb : ((ba xs[k]).toList == (ba ys[k]).toList) = false := by
            rw [Lib.toList_data, Lib.toList_data]
            exact beq_eq_false_iff_ne.2 he
          have HD := Lib.hid (show decide (xs = ys) = false by
            rw [decide_eq_false_iff_not]
            rintro rfl
            exact he rfl)
          generalize ba xs[k] = x at hc hbb
          generalize ba ys[k] = y at hc' hbb
          go_wp2
          go_quiet (fail)
          go_wp2
          go_ret
          exact ⟨by rw [HD.out]; rfl, ((KF.refl _).drewN _).drewN _⟩
      · obtain rfl : k = n := by omega
        have HD := Lib.hid (show decide (xs = ys) = true by
          have h := HT.out
          rw [List.take_of_length_le (by rw [← HN.out]; exact Nat.le_refl _), List.take_of_length_le (by rw [← HN'.out]; exact Nat.le_refl _)] at h
          exact decide_eq_true h)
        have hlt' : ¬ (k : Int) < (k : Int) := by omega
        go_wp2
        go_ret
        exact ⟨by rw [HD.out]; rfl, (KF.refl _).drewN _⟩
  · have hnn : ((n : Int) == (n' : Int)) = false := beq_eq_false_iff_ne.2 (by omega)
    have HD := Lib.hid (show decide (xs = ys) = false by
      rw [decide_eq_false_iff_not]
      rintro rfl
      exact hl (HN.out.trans HN'.out.symm))
    go_enter Tryz.func22, Tryz.ntmps22
    go_wp2_with fail
    go_ret
    exact ⟨by rw [HD.out]; rfl, KF.refl _⟩
end Go.Proofs.YtlkiaghpdjbfeaaGreatDoor

namespace Go.Proofs.YtlkiaghpdjbfeaaGreatDoor
open Go.RowKit

set_option maxRecDepth 100000 in
theorem strsT : St Tryz.prog 34 9 := ⟨Tryz.underlying34, _, rfl, rfl, rfl, rfl⟩
/-- What the document's Split answers. -/
def RSplits (l : Txt) (w : World) (e : Ending) (w' : World) : Prop := KF w w' ∧
  ((pathM l = none ∧ ∃ A n c, e = .returned (.tuple #[.slice A n c, .bool false])) ∨
   ∃ ps A c, pathM l = some ps ∧ e = .returned (.tuple #[.slice A ps.length c, .bool true]) ∧ ps.length ≤ c ∧ c ≤ 9223372036854775807 ∧ Strs w' w'.heap.size A (ps.map ba))

/-- How far the document's Split is: what is laid is the first pieces; the piece that it is in has no slash up to here. -/
def Going (l r : Txt) (out : List Txt) (f i : Nat) : Prop := f ≤ i ∧ out ++ pieces (l.drop f) = pieces r ∧ ∀ j, f ≤ j → j < i → l[j]? ≠ some 47
theorem Going.more {l r : Txt} {out : List Txt} {f i : Nat} (h : Going l r out f i) (hi : l[i]? ≠ some 47) : Going l r out f (i + 1) :=
  ⟨by have := h.1; omega, h.2.1, fun j hf hj => by
    rcases Nat.lt_or_ge j i with h' | h'
    · exact h.2.2 j hf h'
    · obtain rfl : j = i := by omega
      exact hi⟩
theorem Going.piece {l r : Txt} {out : List Txt} {f i : Nat} (h : Going l r out f i) : ∀ b ∈ (l.drop f).take (i - f), b ≠ 47 := fun b hb e => by
  subst e
  obtain ⟨j, hj, hj'⟩ := List.mem_iff_getElem.1 hb
  rw [List.getElem_take, List.getElem_drop] at hj'
  have hj2 : j < i - f := by
    rw [List.length_take] at hj; omega
  refine h.2.2 (f + j) (by omega) (by omega) ?_
  rw [← hj']
  exact List.getElem?_eq_getElem _
theorem Going.cut {l r : Txt} {out : List Txt} {f i : Nat} (h : Going l r out f i) (hi : l[i]? = some 47) : Going l r (out ++ [(l.drop f).take (i - f)]) (i + 1) (i + 1) := by
  refine ⟨Nat.le_refl _, ?_, fun j h1 h2 => by omega⟩
  have hlt : i < l.length := by
    rcases Nat.lt_or_ge i l.length with h' | h'
    · exact h'
    · rw [List.getElem?_eq_none h'] at hi; cases hi
  have hfi := h.1
  have e : l.drop f = (l.drop f).take (i - f) ++ 47 :: l.drop (i + 1) := by
    have h1 : (l.drop f).drop (i - f) = l.drop i := by rw [List.drop_drop]; congr 1; omega
    have h2 : l.drop i = 47 :: l.drop (i + 1) := by
      rw [List.getElem?_eq_getElem hlt] at hi
      injection hi with hi
      rw [List.drop_eq_getElem_cons hlt, hi]
    rw [← h2, ← h1, List.take_append_drop]
  rw [← h.2.1, List.append_assoc]
  congr 1
  have := pieces_cut h.piece (l.drop (i + 1))
  rw [← e] at this
  rw [this]
  rfl
theorem Going.end {l r : Txt} {out : List Txt} {f : Nat} (h : Going l r out f l.length) : out ++ [(l.drop f).take (l.length - f)] = pieces r := by
  have hp := h.piece
  have e : (l.drop f).take (l.length - f) = l.drop f := List.take_of_length_le (by rw [List.length_drop]; exact Nat.le_refl _)
  rw [e] at hp ⊢
  rw [← h.2.1, pieces_whole hp]

theorem extract_ba (s : ByteArray) (f i : Nat) : s.extract f i = ba ((s.data.toList.drop f).take (i - f)) := by
  apply ba_ext.1
  rw [Lib.extract_data]
theorem piece_le (l : Txt) : ∀ p ∈ pieces l, p.length ≤ l.length := by
  induction l with
  | nil => simp [pieces]
  | cons c r ih =>
    intro p hp
    by_cases h : c = 47
    · subst h
      rw [pieces_slash, List.mem_cons] at hp
      rcases hp with rfl | hp
      · simp
      · have := ih p hp; simp; omega
    · obtain ⟨x, q, hr⟩ : ∃ x q, pieces r = x :: q := by
        cases hh : pieces r with
        | nil => exact absurd hh (pieces_ne r)
        | cons x q => exact ⟨x, q, rfl⟩
      rw [pieces_byte h hr, List.mem_cons] at hp
      rcases hp with rfl | hp
      · have := ih x (by rw [hr]; simp); simp; omega
      · have := ih p (by rw [hr]; simp [hp]); simp; omega
set_option maxRecDepth 100000 in
theorem rsplit_root (w : World) : Calls Tryz.prog 93 #[.string ⟨#[47]⟩] w (RSplits [47] w) := by
  go_enter Tryz.func93, Tryz.ntmps93
  go_wp2_with fail
  go_ret2
  exact ⟨KF.of_below ((Below.refl _ _).alloc (Nat.le_refl _) _), Or.inr ⟨[], _, _, rfl, rfl, by simp, by omega, Strs.nil⟩⟩
set_option maxRecDepth 100000 in
theorem rsplit_bare (s : ByteArray) (w : World) (h : ∀ r, s.data.toList ≠ 47 :: r) : Calls Tryz.prog 93 #[.string s] w (RSplits s.data.toList w) := by
  have hn : (s.toList == [47]) = false := beq_eq_false_iff_ne.2 (by rw [Lib.toList_data]; exact h [])
  have hm : pathM s.data.toList = none := by
    cases hl : s.data.toList with
    | nil => rfl
    | cons b r => rw [pathM, if_pos (fun e => h r (by rw [hl, e]))]
  have HM := Lib.hid hm
  rcases Nat.eq_zero_or_pos s.size with h0 | h0
  · have e0 : ((s.size : Int) == 0) = true := by rw [h0]; rfl
    have H0 := Lib.hid h0
    clear h hm h0
    go_enter Tryz.func93, Tryz.ntmps93
    go_wp2_with fail
    go_ret2
    exact ⟨KF.of_below ((Below.refl _ _).alloc (Nat.le_refl _) _), Or.inl ⟨HM.out, _, _, _, rfl⟩⟩
  · have e0 : ((s.size : Int) == 0) = false := beq_eq_false_iff_ne.2 (by omega)
    have hlt' : (0 : Int) < (s.size : Int) := by omega
    have hb : (((s[0]'h0).toNat : Int) == 47) = false := by
      rw [beq_eq_false_iff_ne]
      intro e
      have e2 : (s[0]'h0) = 47 := UInt8.toNat_inj.1 (by simpa using (by omega : (s[0]'h0).toNat = 47))
      have := Lib.data_getElem? s 0 h0
      rw [e2] at this
      cases hl : s.data.toList with
      | nil => rw [hl] at this; cases this
      | cons b r =>
        rw [hl] at this
        injection this with this
        exact h r (by rw [hl, this])
    clear h hm
    go_enter Tryz.func93, Tryz.ntmps93
    go_wp2_with fail
    go_ret2
    exact ⟨KF.of_below ((Below.refl _ _).alloc (Nat.le_refl _) _), Or.inl ⟨HM.out, _, _, _, rfl⟩⟩

set_option maxRecDepth 100000 in
theorem rsplit_led (r : Txt) (w : World) (hr : r ≠ []) (hs : r.length ≤ 1000) : Calls Tryz.prog 93 #[.string (ba (47 :: r))] w (RSplits (47 :: r) w) := by
  have hn : ((ba (47 :: r)).toList == [47]) = false := beq_eq_false_iff_ne.2 (by
    rw [Lib.toList_data]
    intro h
    have h' : (47 :: r : Txt) = [47] := h
    injection h' with _ h'
    exact hr h')
  have hsz : (ba (47 :: r)).size = r.length + 1 := ba_size _
  have hL : (ba (47 :: r)).data.toList = 47 :: r := rfl
  have HR := Lib.hid hr
  clear hr
  generalize ba (47 :: r) = s at *
  have h0 : 0 < s.size := by omega
  have hb : (s[0]'h0) = 47 := by
    have := Lib.data_getElem? s 0 h0
    rw [hL] at this
    injection this with this
    exact this.symm
  have e0 : ((s.size : Int) == 0) = false := beq_eq_false_iff_ne.2 (by omega)
  have hlt' : (0 : Int) < (s.size : Int) := by omega
  have HL := Lib.hid hL
  have HZ := Lib.hid hsz
  have h1000 : s.size ≤ 1001 := by omega
  clear hL hsz
  go_enter Tryz.func93, Tryz.ntmps93
  go_wp2_with fail
  go_loopg [4, 5, 6] (s.size + 1) (fun g s4 s5 s6 wr => ∃ (out : List Txt) (f i : Nat) (A : Option Addr) (n c : Nat), s4 = .slice A n c ∧ s5 = .int .i64 f ∧ s6 = .int .i64 i ∧ OwnT 9 wr (.slice A n c) (out.map ba) ∧ NB w (.slice A n c) ∧ KF w wr ∧ out.length ≤ i ∧ s.size + 1 - i ≤ g ∧ ((i ≤ s.size ∧ Going (47 :: r) r out f i) ∨ (i = s.size + 1 ∧ out = pieces r)))
  case atStart =>
    exact ⟨[], 1, 1, _, 0, 0, rfl, rfl, rfl, OwnT.empty _ _, NB.new (Nat.le_refl _) _ _, KF.of_below ((Below.refl _ _).alloc (Nat.le_refl _) _), by simp, by omega, Or.inl ⟨by omega, Nat.le_refl _, rfl, fun j h1 h2 => by omega⟩⟩
  case round =>
    obtain ⟨out, f, i, A, n, c, rfl, rfl, rfl, ho, hnb, kr, hoi, hg, ⟨hi, hgo⟩ | ⟨hi, hout⟩⟩ := hrel
    · have hfi := hgo.1
      have HG := Lib.hid hgo
      clear hgo
      have hle : (i : Int) ≤ (s.size : Int) := by omega
      rcases Nat.lt_or_ge i s.size with hlt | hge
      · have hlt' : (i : Int) < (s.size : Int) := by omega
        have hne : ((i : Int) == (s.size : Int)) = false := beq_eq_false_iff_ne.2 (by omega)
        have hget := Lib.data_getElem? s i hlt
        rw [HL.out] at hget
        by_cases hx : (s[i]'hlt) = 47
        · rw [hx] at hget
          have HC := Lib.hid (HG.out.cut hget)
          clear HG hget
          have HX := Lib.hid (extract_ba s f i)
          rw [HL.out] at HX
          go_wp2_with (at_builtin; refine wpList_append_str _ rfl _ _ _ rfl strsT (.slice A n c) (out.map ba) rfl (ho.alloc _) (wr.heap.size + 1) (some ⟨wr.heap.size, 0, none⟩) 1 1 [s.extract f i] rfl rfl (strs_one wr _ _) (by simp; omega) ?_; intro A4 n4 c4 w4 o4 e4 h4 m4 g4 f4)
          have k4 := (kr.alloc (.cells #[.string (s.extract f i)] 9)).own g4 hnb
          go_roundg (s.size + 1 - (i + 1))
          case measure => omega
          case rel =>
            refine ⟨out ++ [((47 :: r).drop f).take (i - f)], i + 1, i + 1, A4, n4, c4, rfl, by go_num, by go_num, ?_, hnb.next (Nat.le_trans kr.size (by simp)) f4, k4, by simp; omega, by omega, Or.inl ⟨by omega, HC.out⟩⟩
            rw [List.map_append]
            rw [HX.out] at o4
            exact o4
        · have hxb : (((s[i]'hlt).toNat : Int) == 47) = false := by
            rw [beq_eq_false_iff_ne]
            intro e
            exact hx (UInt8.toNat_inj.1 (by simpa using (by omega : (s[i]'hlt).toNat = 47)))
          have HC := Lib.hid (HG.out.more (by rw [hget]; intro e; injection e with e; exact hx e))
          clear HG hget
          go_wp2_with fail
          go_roundg (s.size + 1 - (i + 1))
          case measure => omega
          case rel => exact ⟨out, f, i + 1, A, n, c, rfl, rfl, by go_num, ho, hnb, kr, by omega, by omega, Or.inl ⟨by omega, HC.out⟩⟩
      · have his : i = s.size := by omega
        have hne : ((i : Int) == (s.size : Int)) = true := by rw [his]; exact beq_self_eq_true _
        have HC := Lib.hid (show out ++ [((47 :: r).drop f).take (i - f)] = pieces r from by
          have hll : (47 :: r : Txt).length = i := by rw [← HL.out, ← size_len, his]
          have hgo := HG.out
          rw [← hll] at hgo ⊢
          exact hgo.end)
        have HI := Lib.hid his
        clear his HG
        have HX := Lib.hid (extract_ba s f i)
        rw [HL.out] at HX
        go_wp2_with (at_builtin; refine wpList_append_str _ rfl _ _ _ rfl strsT (.slice A n c) (out.map ba) rfl (ho.alloc _) (wr.heap.size + 1) (some ⟨wr.heap.size, 0, none⟩) 1 1 [s.extract f i] rfl rfl (strs_one wr _ _) (by simp; omega) ?_; intro A4 n4 c4 w4 o4 e4 h4 m4 g4 f4)
        have k4 := (kr.alloc (.cells #[.string (s.extract f i)] 9)).own g4 hnb
        go_roundg 0
        case measure => omega
        case rel =>
          refine ⟨out ++ [((47 :: r).drop f).take (i - f)], i + 1, i + 1, A4, n4, c4, rfl, by go_num, by go_num, ?_, hnb.next (Nat.le_trans kr.size (by simp)) f4, k4, by simp; omega, by have := HI.out; omega, Or.inr ⟨by have := HI.out; omega, HC.out⟩⟩
          rw [List.map_append]
          rw [HX.out] at o4
          exact o4
    · have hle : ¬ ((i : Int) ≤ (s.size : Int)) := by omega
      subst hout
      obtain ⟨A1, c1, e1, hc1, hm1, hst, _⟩ := ho.shape
      injection e1 with e1 e2 e3
      rw [List.length_map] at e2 hc1
      subst e1 e3
      have HN := Lib.hid e2
      have HS := Lib.hid hst
      simp only [maxLen] at hm1
      have hn1000 : n ≤ 1001 := by
        have := pieces_length_le r
        omega
      have hnc : n ≤ c := by omega
      clear hst ho hnb e2
      obtain ⟨w1, hw1⟩ : ∃ w1 : World, w1 = wr := ⟨_, rfl⟩
      subst hw1
      go_wp2_with fail
      go_loopg [7] n (fun g i wq => ∃ k : Nat, k ≤ n ∧ n - k ≤ g ∧ i = .int .i64 k ∧ KF w1 wq ∧ Hid (∀ p ∈ (pieces r).take k, IsName p))
      case atStart => exact ⟨0, by omega, by omega, rfl, KF.refl _, Lib.hid (by simp)⟩
      case round =>
        obtain ⟨k, hk, hg2, rfl, kq, HA⟩ := hrel
        rcases Nat.lt_or_ge k n with hlt | hge
        · have hlt' : (k : Int) < (n : Int) := by omega
          have q1 : k < (pieces r).length := by rw [← HN.out]; exact hlt
          obtain ⟨b, o, rfl, hbb, hcell⟩ := World.cellAt (HS.out.kept kq) (n := k) (by rw [List.length_map]; exact q1)
          rw [List.getElem_map] at hcell
          have hin := List.getElem_mem q1
          have hjp := joined_pieces r
          have hpl : ((pieces r)[k]).length ≤ 1000 := by
            have := piece_le r _ hin
            omega
          have R := rname_any (ba (pieces r)[k]) wr (by rw [ba_size]; omega)
          have hbd : (ba (pieces r)[k]).data.toList = (pieces r)[k] := rfl
          rw [hbd] at R
          by_cases hname : IsName (pieces r)[k]
          · rw [decide_eq_true hname] at R
            have HX := Lib.hid (show ∀ p ∈ (pieces r).take (k + 1), IsName p by
              intro p hp
              rw [List.take_add_one, List.getElem?_eq_getElem q1, List.mem_append] at hp
              rcases hp with hp | hp
              · exact HA.out p hp
              · rw [Option.toList_some, List.mem_singleton] at hp
                rw [hp]
                exact hname)
            have HR2 := Lib.hid R
            clear R hname hbd hin hjp hpl
            generalize ba (pieces r)[k] = x at hcell HR2
            go_wp2_with fail
            refine HR2.out.mono ?_
            rintro e w2 ⟨rfl, k2⟩
            go_wp2_with fail
            go_roundg (n - (k + 1))
            case measure => omega
            case rel => exact ⟨k + 1, by omega, by omega, by go_num, kq.trans k2, HX⟩
          · rw [decide_eq_false hname] at R
            have HM := Lib.hid (show pathM (47 :: r) = none by rw [pathM, if_neg (by simp), if_neg HR.out, if_neg (fun h => hname (h.2 _ hin))])
            have HR2 := Lib.hid R
            clear R hname hbd hin hjp hpl
            generalize ba (pieces r)[k] = x at hcell HR2
            go_wp2_with fail
            refine HR2.out.mono ?_
            rintro e w2 ⟨rfl, k2⟩
            go_wp2_with fail
            go_ret2
            exact ⟨((kr.trans kq).trans k2).trans (KF.of_below ((Below.refl _ _).alloc (Nat.le_refl _) _)), Or.inl ⟨HM.out, _, _, _, rfl⟩⟩
        · obtain rfl : k = n := by omega
          have hlt' : ¬ (k : Int) < (k : Int) := by omega
          have hall : ∀ p ∈ pieces r, IsName p := by
            have := HA.out
            rw [HN.out, List.take_length] at this
            exact this
          rcases Nat.lt_or_ge 8 k with h8 | h8
          · have hd : decide ((8 : Int) < (k : Int)) = true := decide_eq_true (by omega)
            have HM := Lib.hid (show pathM (47 :: r) = none by rw [pathM, if_neg (by simp), if_neg HR.out, if_neg (fun h => by have := h.1; have := HN.out; omega)])
            clear hall
            go_wp2_with fail
            go_ret2
            exact ⟨(kr.trans kq).trans (KF.of_below ((Below.refl _ _).alloc (Nat.le_refl _) _)), Or.inl ⟨HM.out, _, _, _, rfl⟩⟩
          · have hd : decide ((8 : Int) < (k : Int)) = false := decide_eq_false (by omega)
            have HM := Lib.hid (show pathM (47 :: r) = some (pieces r) by rw [pathM, if_neg (by simp), if_neg HR.out, if_pos ⟨by have := HN.out; omega, hall⟩])
            clear hall
            go_wp2_with fail
            go_ret2
            refine ⟨kr.trans kq, Or.inr ⟨pieces r, A, c, HM.out, ?_, by have := HN.out; omega, by omega, HS.out.kept kq⟩⟩
            rw [← HN.out]
            rfl
theorem rsplit_any (s : ByteArray) (w : World) (hs : s.size ≤ 1000) : Calls Tryz.prog 93 #[.string s] w (RSplits s.data.toList w) := by
  rw [size_len] at hs
  rw [← ba_data s]
  generalize s.data.toList = l at hs
  match l with
  | [] => exact rsplit_bare (ba []) w (fun r h => by cases h)
  | b :: r =>
    by_cases hb : b = 47
    · subst hb
      by_cases hr : r = []
      · subst hr; exact rsplit_root w
      · exact rsplit_led r w hr (by simp at hs; omega)
    · exact rsplit_bare (ba (b :: r)) w (fun r' h => hb (by injection h))
end Go.Proofs.YtlkiaghpdjbfeaaGreatDoor

namespace Go.Proofs.YtlkiaghpdjbfeaaGreatDoor
open Go.RowKit

theorem take_step {xs ys : List Txt} {k : Nat} (h : xs.take k = ys.take k) (q1 : k < xs.length) (q2 : k < ys.length) (he : xs[k] = ys[k]) : xs.take (k + 1) = ys.take (k + 1) := take_texts h q1 q2 he

set_option maxRecDepth 100000 in
theorem rinside_any (s t : ByteArray) (w : World) (hs : s.size ≤ 1000) (ht : t.size ≤ 1000) :
    Calls Tryz.prog 58 #[.string s, .string t] w fun e w' => e = .returned (.bool (insideM s.data.toList t.data.toList)) ∧ KF w w' := by
  have C := Lib.hid (rsplit_any s w hs)
  have D : Hid (∀ w1, Calls Tryz.prog 93 #[.string t] w1 (RSplits t.data.toList w1)) := Lib.hid fun w1 => rsplit_any t w1 ht
  go_enter Tryz.func58, Tryz.ntmps58
  go_wp2_with fail
  refine C.out.mono ?_
  rintro e w1 ⟨k1, ⟨hno, A, n, c, rfl⟩ | ⟨xs, A, c, hp, rfl, hc, hcm, hst⟩⟩
  · have HM := Lib.hid (insideM_none (s := s.data.toList) (o := t.data.toList) (Or.inl hno))
    go_wp2_with fail
    refine (D.out _).mono ?_
    rintro e w2 ⟨k2, ⟨hno', A', n', c', rfl⟩ | ⟨ys, A', c', hp', rfl, hc', hcm', hst'⟩⟩
    all_goals (go_wp2_with fail; go_ret; exact ⟨by rw [HM.out]; rfl, k1.trans k2⟩)
  · go_wp2_with fail
    refine (D.out _).mono ?_
    rintro e w2 ⟨k2, ⟨hno', A', n', c', rfl⟩ | ⟨ys, A', c', hp', rfl, hc', hcm', hst'⟩⟩
    · have HM := Lib.hid (insideM_none (s := s.data.toList) (o := t.data.toList) (Or.inr hno'))
      go_wp2_with fail
      go_ret
      exact ⟨by rw [HM.out]; rfl, k1.trans k2⟩
    · have HM := Lib.hid (insideM_some hp hp')
      have h8 := (pathM_some hp).2.1
      have h8' := (pathM_some hp').2.1
      have HS := Lib.hid (hst.kept k2)
      have HS' := Lib.hid hst'
      clear hp hp' hst hst'
      by_cases hl : ys.length < xs.length
      · have hgt : decide ((xs.length : Int) ≤ (ys.length : Int)) = false := decide_eq_false (by omega)
        generalize hx : xs.length = n at *
        generalize hy : ys.length = m at *
        have HX := Lib.hid hx
        have HY := Lib.hid hy
        clear hx hy
        go_wp2_with fail
        go_loopg [9] m (fun g i wr => ∃ k nq : Nat, k ≤ m ∧ m - k ≤ g ∧ i = .int .i64 k ∧ wr = w2.drewN nq ∧ Hid (xs.take k = ys.take k))
        case atStart => exact ⟨0, 0, by omega, by omega, rfl, rfl, Lib.hid rfl⟩
        case round =>
          obtain ⟨k, nq, hk, hg, rfl, rfl, HT⟩ := hrel
          rcases Nat.lt_or_ge k m with hlt | hge
          · have hlt' : (k : Int) < (m : Int) := by omega
            have hlt2 : (k : Int) < (n : Int) := by omega
            have q1 : k < xs.length := by rw [HX.out]; omega
            have q2 : k < ys.length := by rw [HY.out]; exact hlt
            obtain ⟨b, o, rfl, hbb, hc1⟩ := World.cellAt HS.out (n := k) (by rw [List.length_map]; exact q1)
            obtain ⟨b', o', rfl, hbb', hc2⟩ := World.cellAt HS'.out (n := k) (by rw [List.length_map]; exact q2)
            rw [List.getElem_map] at hc1 hc2
            by_cases he : xs[k] = ys[k]
            · have HE := Lib.hid (take_step HT.out q1 q2 he)
              rw [he] at hc1
              generalize ba ys[k] = x at hc1 hc2
              go_wp2
              go_quiet (fail)
              go_wp2
              go_roundg (m - (k + 1))
              case measure => omega
              case rel => exact ⟨k + 1, _, by omega, by omega, by go_num, rfl, HE.out⟩
            · have hbb : ((ba xs[k]).toList == (ba ys[k]).toList) = false := by
                rw [Lib.toList_data, Lib.toList_data]
                exact beq_eq_false_iff_ne.2 he
              have HD := Lib.hid (show decide (m < n ∧ xs.take m = ys) = false by
                rw [decide_eq_false_iff_not]
                rintro ⟨_, h⟩
                apply he
                have h1 : (xs.take m)[k]? = ys[k]? := by rw [h]
                rw [List.getElem?_take, if_pos hlt, List.getElem?_eq_getElem q1, List.getElem?_eq_getElem q2] at h1
                exact Option.some.inj h1)
              generalize ba xs[k] = x at hc1 hbb
              generalize ba ys[k] = y at hc2 hbb
              go_wp2
              go_quiet (fail)
              go_wp2
              go_ret
              exact ⟨by rw [HM.out, HD.out]; rfl, ((k1.trans k2).drewN _).drewN _⟩
          · obtain rfl : k = m := by omega
            have HD := Lib.hid (show decide (k < n ∧ xs.take k = ys) = true by
              have h := HT.out
              rw [List.take_of_length_le (l := ys) (by rw [HY.out]; exact Nat.le_refl _)] at h
              exact decide_eq_true ⟨hl, h⟩)
            have hlt' : ¬ (k : Int) < (k : Int) := by omega
            go_wp2
            go_ret
            exact ⟨by rw [HM.out, HD.out]; rfl, (k1.trans k2).drewN _⟩
      · have hgt : decide ((xs.length : Int) ≤ (ys.length : Int)) = true := decide_eq_true (by omega)
        have HD := Lib.hid (show decide (ys.length < xs.length ∧ xs.take ys.length = ys) = false from decide_eq_false fun h => hl h.1)
        go_wp2_with fail
        go_ret
        exact ⟨by rw [HM.out, HD.out]; rfl, k1.trans k2⟩
end Go.Proofs.YtlkiaghpdjbfeaaGreatDoor

namespace Go.Proofs.YtlkiaghpdjbfeaaGreatDoor
open Go.RowKit
variable {Zp : Nat → Prop}

/-- A node that is laid: its number, where its bytes and its entries lie. -/
abbrev Laid := Nat × (Option Addr × Nat) × (Option Addr × Nat)
def encN (t : Tr) (x : Laid) : List Value := nodeCells (nodeV t x.1) x.2.1.1 x.2.1.2 x.2.2.1 x.2.2.2
theorem encN_len (t : Tr) (x : Laid) : (encN t x).length = 5 := rfl
theorem encN_one (t : Tr) (x : Laid) : ∀ u ∈ encN t x, u.oneCell' = true := by
  intro u hu
  simp only [encN, nodeCells, List.mem_cons, List.not_mem_nil, or_false] at hu
  rcases hu with rfl | rfl | rfl | rfl | rfl <;> rfl
theorem ctNode : Ct Tryz.prog 39 55 5 72 :=
  ⟨Tryz.underlying39, (Tryz.prog.info? 55).get (by kernel_rfl), .agg #[.int .i64 0, .int .i64 0, .int .i64 0, .slice none 0 0, .slice none 0 0], by kernel_rfl, by kernel_rfl, by kernel_rfl, by kernel_rfl, by kernel_rfl⟩
def havingK (t : Tr) (k : Nat) : List Nat := (List.range k).filter fun n => decide ((t n).kind ≠ 0)
theorem havingK_yes {t : Tr} {k : Nat} (h : (t k).kind ≠ 0) : havingK t (k + 1) = havingK t k ++ [k] := by
  unfold havingK
  rw [List.range_succ, List.filter_append]
  simp [h]
theorem havingK_no {t : Tr} {k : Nat} (h : (t k).kind = 0) : havingK t (k + 1) = havingK t k := by
  unfold havingK
  rw [List.range_succ, List.filter_append]
  simp [h]
theorem havingK_len (t : Tr) (k : Nat) : (havingK t k).length ≤ k := by
  have := List.length_filter_le (fun n => decide ((t n).kind ≠ 0)) (List.range k)
  rwa [List.length_range] at this
/-- What All gives. -/
def RAlls (t : Tr) (w : World) (e : Ending) (w' : World) : Prop := ∃ A n c, e = .returned (.slice A n c) ∧ n = (nodesOf t).length ∧ NodesAt w' w'.heap.size A (nodesOf t) ∧ KF w w'
theorem rall_end {t : Tr} {w wr : World} {A' : Option Addr} {n' c' : Nat} {xs : List Laid} (ho : OwnC 55 5 (encN t) wr (.slice A' n' c') xs) (kr : KF w wr) (hx : xs.map (·.1) = havingK t 64)
    (hr : ∀ x ∈ xs, Rd w w.heap.size x.2.1.1 (t x.1).data ∧ Ents w w.heap.size x.2.2.1 (t x.1).entries) : RAlls t w (.returned (.slice A' n' c')) wr := by
  obtain ⟨A, c, e, _, _, hc, _⟩ := ho.shape (encN_len t)
  injection e with e1 e2 e3
  subst e1 e2 e3
  have hn : nodesOf t = xs.map fun x => nodeV t x.1 := by
    unfold nodesOf
    show (havingK t 64).map _ = _
    rw [← hx, List.map_map]
    rfl
  refine ⟨_, _, _, rfl, by rw [hn, List.length_map], fun j y hy => ?_, kr⟩
  rw [hn, List.getElem?_map] at hy
  obtain ⟨x, hxj, rfl⟩ : ∃ x, xs[j]? = some x ∧ nodeV t x.1 = y := by
    cases h : xs[j]? with
    | none => rw [h] at hy; cases hy
    | some x => rw [h] at hy; injection hy with hy; exact ⟨x, rfl, hy⟩
  obtain ⟨b, o, rfl, hb, cells⟩ := hc j x hxj
  obtain ⟨r1, r2⟩ := hr x (List.mem_of_getElem? hxj)
  exact ⟨b, o, x.2.1.1, x.2.1.2, x.2.2.1, x.2.2.2, rfl, hb, cells 0 _ rfl, cells 1 _ rfl, cells 2 _ rfl, cells 3 _ rfl, cells 4 _ rfl, (r1.keepF kr (Nat.le_refl _)).more kr.size, (r2.keep (Nat.le_refl _) kr (fun _ _ h => h)).more kr.size⟩
set_option maxRecDepth 100000 in
theorem rall_any (w : World) (g : Nat) (t : Tr) (h : RefAt Zp w g t) :
    Calls Tryz.prog 15 #[.pointer (some ⟨g, 0, none⟩)] w (RAlls t w) := by
  have HR := Lib.hid fun W (k : KF w W) => h.kept k
  have H0 := Lib.hid h
  have HLT := Lib.hid h.lt
  clear h
  go_enter Tryz.func15, Tryz.ntmps15
  go_wp2_with fail
  go_loopg [3, 4] 64 (fun gh s3 i wr => ∃ (k n' c' : Nat) (A' : Option Addr) (xs : List Laid), k ≤ 64 ∧ 64 - k ≤ gh ∧ s3 = .slice A' n' c' ∧ i = .int .i64 k ∧ OwnC 55 5 (encN t) wr (.slice A' n' c') xs ∧ NB w (.slice A' n' c') ∧ KF w wr ∧ Hid (xs.map (·.1) = havingK t k) ∧ Hid (∀ x ∈ xs, Rd w w.heap.size x.2.1.1 (t x.1).data ∧ Ents w w.heap.size x.2.2.1 (t x.1).entries))
  case atStart => exact ⟨0, 0, 0, _, [], by omega, by omega, rfl, rfl, OwnC.empty _ _, NB.new (Nat.le_refl _) _ _, (KF.refl _).alloc _, Lib.hid rfl, Lib.hid (by simp)⟩
  case round =>
    obtain ⟨k, n', c', A', xs, hk, hg, rfl, rfl, ho, hnb, kr, HX, HRX⟩ := hrel
    rcases Nat.lt_or_ge k 64 with hlt | hge
    · have hlt' : (k : Int) < 64 := by omega
      have r := (H0.out.node k hlt)
      have cl : ∀ j, wr.cell? ⟨g, j, none⟩ = w.cell? ⟨g, j, none⟩ := fun j => KF.cell kr (p := ⟨g, j, none⟩) HLT.out
      have c0 := (cl _).trans r.num
      have c1 := (cl _).trans r.kind
      have c2 := (cl _).trans r.links
      obtain ⟨A1, d1, h1, h2, _⟩ := r.data
      obtain ⟨A2, d2, e1, _, _, e2, _⟩ := r.ents
      have c3 := (cl _).trans h1
      have c4 := (cl _).trans e1
      by_cases hkd : (t k).kind = 0
      · rw [hkd] at c1
        have HX2 := Lib.hid (HX.out.trans (havingK_no hkd).symm)
        clear c0 c2 c3 c4 h1 h2 e1 e2 cl r hkd
        go_wp2_with fail
        go_roundg (64 - (k + 1))
        case measure => omega
        case rel => exact ⟨k + 1, n', c', A', xs, by omega, by omega, rfl, by go_num, ho, hnb, kr, HX2, HRX⟩
      · rw [if_neg hkd] at c0
        have hkd0 : (((t k).kind : Int) != 0) = true := by simp; omega
        have hxl : xs.length ≤ 64 := by
          have := congrArg List.length HX.out
          rw [List.length_map] at this
          have := havingK_len t k
          omega
        have HX2 : Hid ((xs ++ [(k, (A1, d1), (A2, d2))]).map (·.1) = havingK t (k + 1)) := Lib.hid (by rw [havingK_yes hkd, List.map_append, HX.out]; rfl)
        have HRX2 : Hid (∀ x ∈ xs ++ [(k, (A1, d1), (A2, d2))], Rd w w.heap.size x.2.1.1 (t x.1).data ∧ Ents w w.heap.size x.2.2.1 (t x.1).entries) := Lib.hid fun x hx => by
          rcases List.mem_append.1 hx with hx | hx
          · exact HRX.out x hx
          · simp at hx; subst hx; exact ⟨h2, e2⟩
        have lit := Lib.hid (RdC.lit (encN_len t) wr 55 (k, (A1, d1), (A2, d2)))
        have lit2 : Hid (RdC 5 (encN t) (wr.alloc (.cells #[.int .i64 (k : Int), .int .i64 ((t k).kind : Int), .int .i64 ((t k).links : Int), .slice A1 (t k).data.length d1, .slice A2 (t k).entries.length d2] 55)) (wr.heap.size + 1) (some ⟨wr.heap.size, 0, none⟩) [(k, (A1, d1), (A2, d2))]) := lit
        have hb1 : (xs.length + [((k, (A1, d1), (A2, d2)) : Laid)].length) * 72 ≤ 140737488355328 := by simp; omega
        have hb2 : xs.length + [((k, (A1, d1), (A2, d2)) : Laid)].length ≤ 1000000000 := by simp; omega
        clear lit HX HRX h1 h2 e1 e2 cl r hkd hxl
        go_wp2_with (at_builtin; refine wpList_append_c _ rfl _ _ _ rfl ctNode (encN_len t) (encN_one t) (by decide) _ xs rfl (ho.alloc _) (wr.heap.size + 1) _ _ _ [(k, (A1, d1), (A2, d2))] rfl rfl lit2.out hb1 hb2 ?_; intro A4 n4 c4' w4 o4 e4 h4 m4 g4 f4)
        have k4 := (kr.alloc (.cells #[.int .i64 (k : Int), .int .i64 ((t k).kind : Int), .int .i64 ((t k).links : Int), .slice A1 (t k).data.length d1, .slice A2 (t k).entries.length d2] 55)).own g4 hnb
        go_roundg (64 - (k + 1))
        case measure => omega
        case rel => exact ⟨k + 1, n4, c4', A4, _, by omega, by omega, rfl, by go_num, o4, hnb.next (Nat.le_trans kr.size (by simp)) f4, k4, HX2, HRX2⟩
    · obtain rfl : k = 64 := by omega
      have FN := Lib.hid (rall_end ho kr HX.out HRX.out)
      clear ho hnb HX HRX
      go_wp2_with fail
      go_ret
      exact FN.out
end Go.Proofs.YtlkiaghpdjbfeaaGreatDoor

namespace Go.Proofs.YtlkiaghpdjbfeaaGreatDoor
open Go.RowKit Go.ChangeShapes Go.WideShapes Go.ChangeAt
theorem own : ownKnob Tryz.prog.godebug = none := by kernel_rfl
theorem laidOut : laidOutB Tryz.prog = true := by kernel_rfl
theorem cellsStr : Tryz.prog.cellsOf 9 = 1 := by kernel_rfl
theorem env_of {W : World} (h : W.ShapedOpen Tryz.prog) : Env W :=
  cell_of_shapedOpen_int (zero := #[.int .i64 0]) (t := 3) h (of_decide_eq_true (by kernel_rfl)) (by kernel_rfl) rfl (by kernel_rfl) (by kernel_rfl) Tryz.underlying3
def acceptInts : List Int := [128, 191, 160, 191, 128, 159, 144, 191, 128, 143, 0, 0, 0, 0, 0, 0, 0, 0, 0, 0, 0, 0, 0, 0, 0, 0, 0, 0, 0, 0, 0, 0]
def holdObj (cs : Array Value) : Obj → Obj
  | .cells _ t frozen => .cells cs t frozen
  | o => o
/-- A world for the witness: the settled one, the tables holding what their initialisers lay. -/
noncomputable def laidWorld (os : Os) : World :=
  { World.holding Tryz.prog os ⟨#[], #[], []⟩ with heap := ((World.holding Tryz.prog os ⟨#[], #[], []⟩).heap.modify 3 (holdObj (acceptInts.map (Value.int .u8)).toArray)).modify 2 (holdObj (Go.Pinned.utf8FirstZ.map fun n : Nat => Value.int .u8 (n : Int)).toArray) }
section
variable {H : Type} {enc : TypeId × Value → H} {W : World}
set_option maxRecDepth 100000 in
theorem open_strs {base b0 : Nat} {r : Reach} {spare : Nat → Bool} {held : Bool} {v : Value} {d : DataW H} {p : List MemPlace}
    (hv : Value.okWide Tryz.prog W r b0 34 v) (h : DataW.Trod enc Tryz.prog W base spare held 34 v d p) : ∃ (A : Option Addr) (ps : List Txt) (n c : Nat), v = .slice A n c ∧ n = ps.length ∧ n ≤ c ∧ c ≤ maxLen ∧ (∀ p ∈ ps, p.length ≤ maxLen) ∧ Strs W W.heap.size A (ps.map ba) := by
  obtain ⟨A, n, c, rfl, hc, hm, hi⟩ := open_cells Tryz.underlying34 (Nat.lt_of_lt_of_eq Nat.zero_lt_one cellsStr.symm) hv h
  have hx : ∀ i, i < n → ∃ x : Txt, x.length ≤ maxLen ∧ ∃ b o, A = some ⟨b, o, none⟩ ∧ b < W.heap.size ∧ W.cell? ⟨b, o + i, none⟩ = some (.string (ba x)) := fun i hin => by
    obtain ⟨b, o, cs, fuel, y, hA, hb, _, hcell, hy⟩ := hi i hin
    obtain ⟨s, rfl, _, hs⟩ := DataW.trod_string Tryz.underlying9 hy
    rw [cellsStr] at hcell
    have h0 := hcell 0 _ rfl
    rw [Nat.mul_one, Nat.add_zero] at h0
    refine ⟨s.data.toList, by rw [← size_len]; exact hs, b, o, hA, hb, ?_⟩
    rw [ba_data]
    exact h0
  have each : ∀ k, k ≤ n → ∃ ps : List Txt, ps.length = k ∧ (∀ p ∈ ps, p.length ≤ maxLen) ∧ Strs W W.heap.size A (ps.map ba) := fun k => by
    induction k with
    | zero => exact fun _ => ⟨[], rfl, by simp, Strs.nil⟩
    | succ k ih =>
      intro hk
      obtain ⟨ps, hl, hs, hst⟩ := ih (by omega)
      obtain ⟨x, hxl, b, o, hA, hb, hcell⟩ := hx k (by omega)
      refine ⟨ps ++ [x], by simp [hl], ?_, fun j y hy => ?_⟩
      · intro p hp
        simp at hp
        rcases hp with hp | rfl
        · exact hs p hp
        · exact hxl
      · rw [List.map_append] at hy
        rcases Nat.lt_or_ge j ps.length with hlt | hge
        · rw [List.getElem?_append_left (by simpa using hlt)] at hy
          exact hst j y hy
        · rw [List.getElem?_append_right (by simpa using hge)] at hy
          have hj : j = k := by
            rcases Nat.lt_or_ge (j - ps.length) 1 with h | h
            · omega
            · rw [List.getElem?_eq_none (by simp; omega)] at hy; cases hy
          subst hj
          have e : j - (ps.map ba).length = 0 := by simp; omega
          rw [e] at hy
          simp at hy
          subst hy
          exact ⟨b, o, hA, hb, hcell⟩
  obtain ⟨ps, hl, hs, hst⟩ := each n (Nat.le_refl _)
  exact ⟨A, ps, n, c, rfl, hl.symm, hc, hm, hs, hst⟩
end
end Go.Proofs.YtlkiaghpdjbfeaaGreatDoor
