/-
  A directory's entries: a row of names, rising by their bytes, each with a node's number. Over no program.
-/
import Derived.Test.YtklpebfkgdklmabDoorPathMath
import GoSem.Op.String
namespace Go.Proofs.YtklpebfkgdklmabDoor

/-- Texts, by their bytes. -/
abbrev less (a b : Txt) : Bool := Go.Op.bytesLess a b
theorem less_irrefl : ∀ a : Txt, less a a = false
  | [] => rfl
  | b :: r => by
    show (decide (b < b) || (b == b && less r r)) = false
    rw [less_irrefl r]
    simp
theorem less_trans : ∀ {a b c : Txt}, less a b = true → less b c = true → less a c = true
  | a, [], _, h, _ => by
    have e : less a [] = false := by cases a <;> rfl
    rw [e] at h
    cases h
  | _, _ :: _, [], _, h => by cases h
  | [], _ :: _, _ :: _, _, _ => rfl
  | x :: a, y :: b, z :: c, h, k => by
    have h' : (decide (x < y) || (x == y && less a b)) = true := h
    have k' : (decide (y < z) || (y == z && less b c)) = true := k
    show (decide (x < z) || (x == z && less a c)) = true
    simp only [Bool.or_eq_true, decide_eq_true_eq, Bool.and_eq_true, beq_iff_eq] at h' k' ⊢
    rcases h' with h' | ⟨rfl, h'⟩
    · rcases k' with k' | ⟨rfl, _⟩
      · exact Or.inl (UInt8.lt_trans h' k')
      · exact Or.inl h'
    · rcases k' with k' | ⟨rfl, k'⟩
      · exact Or.inl k'
      · exact Or.inr ⟨rfl, less_trans h' k'⟩
theorem less_total : ∀ {a b : Txt}, a ≠ b → less a b = false → less b a = true
  | [], [], h, _ => absurd rfl h
  | [], _ :: _, _, h => by cases h
  | _ :: _, [], _, _ => rfl
  | x :: a, y :: b, h, k => by
    have k' : (decide (x < y) || (x == y && less a b)) = false := k
    show (decide (y < x) || (y == x && less b a)) = true
    simp only [Bool.or_eq_false_iff, decide_eq_false_iff_not, Bool.and_eq_false_iff, beq_eq_false_iff_ne] at k'
    simp only [Bool.or_eq_true, decide_eq_true_eq, Bool.and_eq_true, beq_iff_eq]
    by_cases hxy : x = y
    · subst hxy
      refine Or.inr ⟨rfl, less_total (fun e => h (by rw [e])) ?_⟩
      rcases k'.2 with k2 | k2
      · exact absurd rfl k2
      · exact k2
    · refine Or.inl ?_
      have h1 := k'.1
      rw [UInt8.not_lt] at h1
      exact UInt8.lt_of_le_of_ne h1 (fun e => hxy e.symm)
theorem less_ne {a b : Txt} (h : less a b = true) : a ≠ b := by
  rintro rfl
  rw [less_irrefl] at h
  cases h
theorem less_asymm {a b : Txt} (h : less a b = true) : less b a = false := by
  cases k : less b a
  · rfl
  · have := less_trans h k
    rw [less_irrefl] at this
    cases this

abbrev Row := List (Txt × Nat)
/-- The node of a name. -/
def look : Row → Txt → Option Nat
  | [], _ => none
  | e :: r, x => if e.1 = x then some e.2 else look r x
/-- An entry more, at its place. -/
def put (es : Row) (x : Txt) (k : Nat) : Row := es.takeWhile (fun e => less e.1 x) ++ (x, k) :: es.dropWhile (fun e => less e.1 x)
/-- An entry less. -/
def drop (es : Row) (x : Txt) : Row := es.filter fun e => decide (e.1 ≠ x)
/-- Names rise. -/
def Rising (es : Row) : Prop := es.Pairwise fun a b => less a.1 b.1 = true
/-- How many entries are of a node. -/
def refs (es : Row) (n : Nat) : Nat := es.countP fun e => decide (e.2 = n)

theorem look_append (a b : Row) (x : Txt) : look (a ++ b) x = match look a x with | some k => some k | none => look b x := by
  induction a with
  | nil => rfl
  | cons e r ih =>
    rw [List.cons_append, look, look]
    split
    · rfl
    · exact ih
theorem look_none {es : Row} {x : Txt} : look es x = none ↔ ∀ e ∈ es, e.1 ≠ x := by
  induction es with
  | nil => simp [look]
  | cons e r ih =>
    rw [look]
    split
    · next h => exact ⟨fun h' => (by cases h'), fun h' => absurd h (h' e (by simp))⟩
    · next h =>
      rw [ih]
      constructor
      · intro h' e' he'
        rcases List.mem_cons.1 he' with rfl | he'
        · exact h
        · exact h' e' he'
      · exact fun h' e' he' => h' e' (by simp [he'])
theorem look_mem {es : Row} {x : Txt} {k : Nat} (h : look es x = some k) : (x, k) ∈ es := by
  induction es with
  | nil => cases h
  | cons e r ih =>
    rw [look] at h
    split at h
    · next he =>
      injection h with h
      subst he h
      simp
    · exact List.mem_cons_of_mem _ (ih h)
theorem look_of_mem {es : Row} (hs : Rising es) {x : Txt} {k : Nat} (h : (x, k) ∈ es) : look es x = some k := by
  induction es with
  | nil => cases h
  | cons e r ih =>
    rw [look]
    rcases List.mem_cons.1 h with rfl | h
    · rw [if_pos rfl]
    · have h1 := (List.pairwise_cons.1 hs).1 _ h
      rw [if_neg (less_ne h1), ih (List.pairwise_cons.1 hs).2 h]

theorem takeWhile_less {es : Row} {x : Txt} : ∀ e ∈ es.takeWhile (fun e => less e.1 x), less e.1 x = true := by
  induction es with
  | nil => simp
  | cons a r ih =>
    rw [List.takeWhile_cons]
    split
    · intro e he
      rcases List.mem_cons.1 he with rfl | he
      · assumption
      · exact ih e he
    · simp
theorem split_less (es : Row) (x : Txt) : es.takeWhile (fun e => less e.1 x) ++ es.dropWhile (fun e => less e.1 x) = es := List.takeWhile_append_dropWhile
theorem look_put (es : Row) (x y : Txt) (k : Nat) : look (put es x k) y = if y = x then some k else look es y := by
  unfold put
  rw [look_append, look]
  have h1 : look es y = match look (es.takeWhile fun e => less e.1 x) y with | some k => some k | none => look (es.dropWhile fun e => less e.1 x) y := by
    rw [← look_append, split_less]
  by_cases hy : y = x
  · subst hy
    rw [if_pos rfl, if_pos rfl, look_none.2 fun e he => less_ne (takeWhile_less e he)]
  · rw [if_neg hy, if_neg (fun e => hy e.symm), ← h1]
theorem look_drop (es : Row) (x y : Txt) : look (drop es x) y = if y = x then none else look es y := by
  induction es with
  | nil => simp [drop, look]
  | cons e r ih =>
    unfold drop at ih ⊢
    rw [List.filter_cons]
    by_cases he : e.1 = x
    · rw [if_neg (by simp [he]), ih]
      by_cases hy : y = x
      · rw [if_pos hy, if_pos hy]
      · rw [if_neg hy, if_neg hy, look, if_neg (fun h => hy (h.symm.trans he))]
    · rw [if_pos (by simp [he]), look, look, ih]
      by_cases hy : y = x
      · subst hy
        rw [if_neg he, if_pos rfl, if_pos rfl]
      · rw [if_neg hy, if_neg hy]

/-- Behind its place there stand greater names alone. -/
theorem dropWhile_more {es : Row} (hs : Rising es) {x : Txt} (hx : look es x = none) : ∀ e ∈ es.dropWhile (fun e => less e.1 x), less x e.1 = true := by
  induction es with
  | nil => simp
  | cons a r ih =>
    have hn := look_none.1 hx
    obtain ⟨h1, h2⟩ := List.pairwise_cons.1 hs
    rw [List.dropWhile_cons]
    split
    · exact ih h2 (look_none.2 fun e he => hn e (by simp [he]))
    · next hl =>
      have hax : less x a.1 = true := less_total (hn a (by simp)) (by simpa using hl)
      intro e he
      rcases List.mem_cons.1 he with rfl | he
      · exact hax
      · exact less_trans hax (h1 e he)
theorem put_rising {es : Row} (hs : Rising es) {x : Txt} (hx : look es x = none) (k : Nat) : Rising (put es x k) := by
  unfold put Rising
  have hsp : Rising (es.takeWhile (fun e => less e.1 x) ++ es.dropWhile fun e => less e.1 x) := by rw [split_less]; exact hs
  obtain ⟨p1, p2, p3⟩ := List.pairwise_append.1 hsp
  rw [List.pairwise_append, List.pairwise_cons]
  refine ⟨p1, ⟨fun e he => dropWhile_more hs hx e he, p2⟩, fun a ha b hb => ?_⟩
  rcases List.mem_cons.1 hb with rfl | hb
  · exact takeWhile_less a ha
  · exact p3 a ha b hb
theorem drop_rising {es : Row} (hs : Rising es) (x : Txt) : Rising (drop es x) := List.Pairwise.filter _ hs
theorem mem_put {es : Row} {x : Txt} {k : Nat} {e : Txt × Nat} : e ∈ put es x k ↔ e = (x, k) ∨ e ∈ es := by
  unfold put
  rw [List.mem_append, List.mem_cons]
  have : e ∈ es ↔ e ∈ es.takeWhile (fun e => less e.1 x) ∨ e ∈ es.dropWhile (fun e => less e.1 x) := by
    rw [← List.mem_append, split_less]
  rw [this]
  constructor
  · rintro (h | h | h)
    · exact Or.inr (Or.inl h)
    · exact Or.inl h
    · exact Or.inr (Or.inr h)
  · rintro (h | h | h)
    · exact Or.inr (Or.inl h)
    · exact Or.inl h
    · exact Or.inr (Or.inr h)
theorem mem_drop {es : Row} {x : Txt} {e : Txt × Nat} : e ∈ drop es x ↔ e ∈ es ∧ e.1 ≠ x := by
  unfold drop
  rw [List.mem_filter]
  simp
theorem put_length (es : Row) (x : Txt) (k : Nat) : (put es x k).length = es.length + 1 := by
  unfold put
  rw [List.length_append, List.length_cons, ← Nat.add_assoc, ← List.length_append, split_less]
theorem refs_put (es : Row) (x : Txt) (k n : Nat) : refs (put es x k) n = refs es n + if k = n then 1 else 0 := by
  unfold refs put
  rw [List.countP_append, List.countP_cons]
  have h : es.countP (fun e => decide (e.2 = n)) = (es.takeWhile fun e => less e.1 x).countP (fun e => decide (e.2 = n)) + (es.dropWhile fun e => less e.1 x).countP (fun e => decide (e.2 = n)) := by
    rw [← List.countP_append, split_less]
  rw [h]
  simp only [decide_eq_true_eq]
  omega
/-- A row that rises is told by what its names are of. -/
theorem rising_ext : ∀ {a b : Row}, Rising a → Rising b → (∀ x, look a x = look b x) → a = b
  | [], [], _, _, _ => rfl
  | [], e :: r, _, _, h => by
    have := h e.1
    rw [look, look, if_pos rfl] at this
    cases this
  | e :: r, [], _, _, h => by
    have := h e.1
    rw [look, look, if_pos rfl] at this
    cases this
  | e :: a, f :: b, ha, hb, h => by
    obtain ⟨a1, a2⟩ := List.pairwise_cons.1 ha
    obtain ⟨b1, b2⟩ := List.pairwise_cons.1 hb
    have he := h e.1
    have hf := h f.1
    rw [look, if_pos rfl] at he
    rw [look, look, if_pos rfl] at hf
    have hnm : e.1 = f.1 := by
      apply Classical.byContradiction
      intro hne
      rw [look, if_neg (fun e' => hne e'.symm)] at he
      rw [if_neg hne] at hf
      have m1 := b1 _ (look_mem he.symm)
      have m2 := a1 _ (look_mem hf)
      rw [less_asymm m1] at m2
      cases m2
    have hef : e = f := by
      rw [look, if_pos hnm.symm] at he
      injection he with he
      exact Prod.ext hnm he
    subst hef
    congr 1
    refine rising_ext a2 b2 fun x => ?_
    by_cases hx : e.1 = x
    · subst hx
      rw [look_none.2 fun g hg => (less_ne (a1 g hg)).symm, look_none.2 fun g hg => (less_ne (b1 g hg)).symm]
    · have := h x
      rw [look, look, if_neg hx, if_neg hx] at this
      exact this
theorem drop_put {es : Row} (hs : Rising es) {x : Txt} (hx : look es x = none) (k : Nat) : drop (put es x k) x = es := by
  refine rising_ext (drop_rising (put_rising hs hx k) x) hs fun y => ?_
  rw [look_drop, look_put]
  by_cases hy : y = x
  · rw [if_pos hy, hy, hx]
  · rw [if_neg hy, if_neg hy]
theorem put_drop {es : Row} (hs : Rising es) {x : Txt} {k : Nat} (hx : look es x = some k) : put (drop es x) x k = es := by
  have hn : look (drop es x) x = none := by rw [look_drop, if_pos rfl]
  refine rising_ext (put_rising (drop_rising hs x) hn k) hs fun y => ?_
  rw [look_put, look_drop]
  by_cases hy : y = x
  · rw [if_pos hy, hy, hx]
  · rw [if_neg hy, if_neg hy]
theorem refs_drop {es : Row} (hs : Rising es) {x : Txt} {k : Nat} (hx : look es x = some k) (n : Nat) : refs es n = refs (drop es x) n + if k = n then 1 else 0 := by
  rw [← refs_put (drop es x) x k n, put_drop hs hx]
theorem drop_length {es : Row} (hs : Rising es) {x : Txt} {k : Nat} (hx : look es x = some k) : es.length = (drop es x).length + 1 := by
  rw [← put_length (drop es x) x k, put_drop hs hx]
theorem drop_none {es : Row} {x : Txt} (hx : look es x = none) : drop es x = es := by
  unfold drop
  rw [List.filter_eq_self]
  intro e he
  simp [look_none.1 hx e he]
end Go.Proofs.YtklpebfkgdklmabDoor
