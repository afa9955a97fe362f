/-
  Names and paths as functions on lists of bytes: what the document's chapter on paths says, over no program.
-/
import Derived.Lib.Join
import Derived.Lib.Split
import Derived.Lib.IndexMore
namespace Go.Proofs.Ytncenfgnhamdbaa
open Go.Lib

/-- A text as the bytes that it is of. -/
abbrev Txt := List UInt8
/-- The string of bytes. -/
abbrev ba (l : Txt) : ByteArray := ⟨l.toArray⟩

def IsName (l : Txt) : Prop := (∀ b ∈ l, b ≠ 47 ∧ b ≠ 0) ∧ 1 ≤ l.length ∧ l.length ≤ 16 ∧ l ≠ [46] ∧ l ≠ [46, 46]
instance (l : Txt) : Decidable (IsName l) := by unfold IsName; infer_instance

/-- What stands between the slashes. -/
def pieces : Txt → List Txt
  | [] => [[]]
  | b :: r => if b = 47 then [] :: pieces r else match pieces r with | [] => [[b]] | p :: q => (b :: p) :: q

theorem pieces_ne (l : Txt) : pieces l ≠ [] := by
  cases l with
  | nil => simp [pieces]
  | cons b r =>
    unfold pieces
    split
    · simp
    · split <;> simp
theorem pieces_slash (r : Txt) : pieces (47 :: r) = [] :: pieces r := by simp [pieces]
theorem pieces_byte {b : UInt8} (h : b ≠ 47) {r p : Txt} {q : List Txt} (hr : pieces r = p :: q) : pieces (b :: r) = (b :: p) :: q := by
  rw [pieces, if_neg h, hr]
theorem pieces_whole : ∀ {l : Txt}, (∀ b ∈ l, b ≠ 47) → pieces l = [l]
  | [], _ => rfl
  | b :: r, h => pieces_byte (h b (by simp)) (pieces_whole fun c hc => h c (by simp [hc]))
theorem pieces_cut : ∀ {p : Txt} (_ : ∀ b ∈ p, b ≠ 47) (r : Txt), pieces (p ++ 47 :: r) = p :: pieces r
  | [], _, r => by simp [pieces]
  | b :: p, h, r => pieces_byte (h b (by simp)) (pieces_cut (fun c hc => h c (by simp [hc])) r)
theorem pieces_clean (l : Txt) : ∀ p ∈ pieces l, ∀ b ∈ p, b ≠ 47 := by
  induction l with
  | nil => simp [pieces]
  | cons c r ih =>
    intro p hp b hb
    by_cases h : c = 47
    · subst h
      rw [pieces_slash, List.mem_cons] at hp
      rcases hp with rfl | hp
      · cases hb
      · exact ih p hp b hb
    · obtain ⟨x, q, hr⟩ : ∃ x q, pieces r = x :: q := by
        cases hh : pieces r with
        | nil => exact absurd hh (pieces_ne r)
        | cons x q => exact ⟨x, q, rfl⟩
      rw [pieces_byte h hr, List.mem_cons] at hp
      rcases hp with rfl | hp
      · rw [List.mem_cons] at hb
        rcases hb with rfl | hb
        · exact h
        · exact ih x (by rw [hr]; simp) b hb
      · exact ih p (by rw [hr]; simp [hp]) b hb

/-- The names with a slash between. -/
abbrev joined (names : List Txt) : Txt := Lib.join names [47]
theorem joined_cons_cons (x y : Txt) (r : List Txt) : joined (x :: y :: r) = x ++ 47 :: joined (y :: r) := by
  simp only [joined, Lib.join_cons, Lib.joinTail, List.map_cons, List.flatten_cons, List.append_assoc, List.cons_append, List.nil_append, List.singleton_append]
theorem joined_pieces (l : Txt) : joined (pieces l) = l := by
  induction l with
  | nil => rfl
  | cons c r ih =>
    obtain ⟨x, q, hr⟩ : ∃ x q, pieces r = x :: q := by
      cases hh : pieces r with
      | nil => exact absurd hh (pieces_ne r)
      | cons x q => exact ⟨x, q, rfl⟩
    rw [hr] at ih
    by_cases h : c = 47
    · subst h
      rw [pieces_slash, hr, joined_cons_cons, ih]
      rfl
    · rw [pieces_byte h hr]
      cases q with
      | nil =>
        rw [joined, Lib.join_one] at ih ⊢
        rw [ih]
      | cons y q =>
        rw [joined_cons_cons] at ih ⊢
        rw [List.cons_append, ih]
theorem pieces_joined : ∀ {names : List Txt}, names ≠ [] → (∀ n ∈ names, ∀ b ∈ n, b ≠ 47) → pieces (joined names) = names
  | [], h, _ => absurd rfl h
  | [x], _, h => by rw [joined, Lib.join_one]; exact pieces_whole (h x (by simp))
  | x :: y :: r, _, h => by
    rw [joined_cons_cons, pieces_cut (h x (by simp)), pieces_joined (by simp) fun n hn => h n (List.mem_cons_of_mem x hn)]

/-- What a path has: its names; none, if it is no path. -/
def pathM : Txt → Option (List Txt)
  | [] => none
  | b :: r => if b ≠ 47 then none else if r = [] then some [] else if (pieces r).length ≤ 8 ∧ ∀ p ∈ pieces r, IsName p then some (pieces r) else none
/-- The path of names. -/
abbrev joinM (names : List Txt) : Txt := 47 :: joined names

theorem IsName.clean {n : Txt} (h : IsName n) : ∀ b ∈ n, b ≠ 47 := fun b hb => (h.1 b hb).1
theorem IsName.ne {n : Txt} (h : IsName n) : n ≠ [] := by rintro rfl; exact absurd h.2.1 (by simp)
theorem joined_ne : ∀ {names : List Txt}, names ≠ [] → (∀ n ∈ names, IsName n) → joined names ≠ []
  | [], h, _ => absurd rfl h
  | [x], _, h => by rw [joined, Lib.join_one]; exact (h x (by simp)).ne
  | x :: y :: r, _, h => by rw [joined_cons_cons]; simp
theorem pathM_joinM {names : List Txt} (h8 : names.length ≤ 8) (h : ∀ n ∈ names, IsName n) : pathM (joinM names) = some names := by
  cases names with
  | nil => rfl
  | cons x r =>
    have hp := pieces_joined (names := x :: r) (by simp) fun n hn => (h n hn).clean
    rw [joinM, pathM, if_neg (by simp), if_neg (joined_ne (by simp) h), hp, if_pos ⟨h8, h⟩]
theorem pathM_some {l : Txt} {names : List Txt} (h : pathM l = some names) : l = joinM names ∧ names.length ≤ 8 ∧ ∀ n ∈ names, IsName n := by
  cases l with
  | nil => cases h
  | cons b r =>
    rw [pathM] at h
    split at h
    · cases h
    · next hb =>
      rw [Decidable.not_not] at hb
      subst hb
      split at h
      · next hr =>
        subst hr
        injection h with h
        subst h
        exact ⟨rfl, by simp, by simp⟩
      · split at h
        · next hp =>
          injection h with h
          subst h
          exact ⟨by rw [joinM, joined_pieces], hp.1, hp.2⟩
        · cases h
theorem pathM_iff {l : Txt} {names : List Txt} : pathM l = some names ↔ l = joinM names ∧ names.length ≤ 8 ∧ ∀ n ∈ names, IsName n :=
  ⟨pathM_some, fun ⟨h, h8, hn⟩ => by rw [h]; exact pathM_joinM h8 hn⟩

/-- Does the one stand beneath the other? -/
def insideM (s o : Txt) : Bool := match pathM s, pathM o with
  | some a, some b => decide (b.length < a.length ∧ a.take b.length = b)
  | _, _ => false
theorem insideM_self (s : Txt) : insideM s s = false := by
  unfold insideM
  split
  · next a b h h' =>
    rw [h] at h'
    injection h' with h'
    subst h'
    simp
  · rfl
theorem insideM_some {s o : Txt} {a b : List Txt} (hs : pathM s = some a) (ho : pathM o = some b) : insideM s o = decide (b.length < a.length ∧ a.take b.length = b) := by
  unfold insideM; rw [hs, ho]
theorem insideM_none {s o : Txt} (h : pathM s = none ∨ pathM o = none) : insideM s o = false := by
  unfold insideM
  rcases h with h | h
  · rw [h]
  · rw [h]; cases pathM s <;> rfl
theorem pathM_above {s : Txt} {ps : List Txt} {p : Txt} (h : pathM s = some (ps ++ [p])) : pathM (joinM ps) = some ps := by
  obtain ⟨_, h8, hn⟩ := pathM_some h
  exact pathM_joinM (by simp at h8; omega) fun n hn' => hn n (by simp [hn'])
theorem insideM_above {s : Txt} {ps : List Txt} {p : Txt} (h : pathM s = some (ps ++ [p])) : insideM s (joinM ps) = true := by
  rw [insideM_some h (pathM_above h)]
  simp
theorem insideM_through {s o : Txt} {ps : List Txt} {p : Txt} (h : pathM s = some (ps ++ [p])) (hi : insideM (joinM ps) o = true) : insideM s o = true := by
  cases ho : pathM o with
  | none => rw [insideM_none (Or.inr ho)] at hi; cases hi
  | some b =>
    rw [insideM_some (pathM_above h) ho] at hi
    rw [insideM_some h ho]
    have hi := of_decide_eq_true hi
    refine decide_eq_true ⟨by simp; omega, ?_⟩
    rw [List.take_append_of_le_length (by omega)]
    exact hi.2

/-- A slash's place in a text. -/
theorem slash_spec (s : Txt) : (index s [47] = -1 ∧ ∀ b ∈ s, b ≠ 47) ∨ ∃ p r, s = p ++ 47 :: r ∧ (∀ b ∈ p, b ≠ 47) ∧ index s [47] = (p.length : Int) := by
  have occ : ∀ j, j < s.length → s[j]? ≠ some 47 → occAt s [47] j = false := fun j hj hn => by
    cases h : occAt s [47] j with
    | false => rfl
    | true => exact absurd (occAt_head rfl h) hn
  rcases index_spec s [47] with ⟨h, hn⟩ | ⟨i, h, hi, ho, hf⟩
  · refine Or.inl ⟨h, fun b hb e => ?_⟩
    subst e
    obtain ⟨j, hj, hj'⟩ := List.mem_iff_getElem.1 hb
    have := hn j (by omega)
    rw [occAt_iff_take s [47] j (by simp; omega)] at this
    rw [List.drop_eq_getElem_cons hj, hj'] at this
    simp at this
  · have h47 : s[i]? = some 47 := occAt_head rfl ho
    have hlt : i < s.length := by
      rcases Nat.lt_or_ge i s.length with h' | h'
      · exact h'
      · rw [List.getElem?_eq_none h'] at h47; cases h47
    refine Or.inr ⟨s.take i, s.drop (i + 1), ?_, ?_, ?_⟩
    · rw [List.getElem?_eq_getElem hlt] at h47
      injection h47 with h47
      rw [← h47, ← List.drop_eq_getElem_cons hlt, List.take_append_drop]
    · intro b hb e
      subst e
      obtain ⟨j, hj, hj'⟩ := List.mem_iff_getElem.1 hb
      have hj2 : j < i := by simp at hj; omega
      have := hf j hj2
      rw [occAt_iff_take s [47] j (by simp; omega)] at this
      rw [List.drop_eq_getElem_cons (by omega)] at this
      rw [List.getElem_take] at hj'
      rw [hj'] at this
      simp at this
    · rw [h]; simp; omega

/-- Cut at no more slashes than k: all pieces, if there are no more; else one more than k. -/
theorem splitK_pieces : ∀ (k : Nat) (s : Txt), ((pieces s).length ≤ k + 1 → splitK [47] 0 k s = pieces s) ∧ (k + 1 < (pieces s).length → (splitK [47] 0 k s).length = k + 1)
  | 0, s => by
    refine ⟨fun h => ?_, fun _ => rfl⟩
    match hp : pieces s with
    | [] => exact absurd hp (pieces_ne s)
    | [p] =>
      have := joined_pieces s
      rw [hp, joined, Lib.join_one] at this
      rw [splitK, this]
    | p :: q :: r => rw [hp] at h; simp at h
  | k + 1, s => by
    rcases slash_spec s with ⟨h, hn⟩ | ⟨p, r, rfl, hp, h⟩
    · have hs := pieces_whole hn
      rw [hs, splitK, h]
      exact ⟨fun _ => rfl, fun h' => by simp at h'⟩
    · have hs := pieces_cut hp r
      have hne : ¬ ((p.length : Int) == -1) = true := fun e => by have := beq_iff_eq.1 e; omega
      rw [hs, splitK, h, if_neg hne]
      have e1 : ((p.length : Int)).toNat = p.length := by omega
      rw [e1]
      have e3 : (p ++ 47 :: r).take (p.length + 0) = p := by simp
      rw [e3]
      have e2 : (p ++ 47 :: r).drop (p.length + [(47 : UInt8)].length) = r := by
        rw [List.drop_append]
        simp
      rw [e2]
      obtain ⟨i1, i2⟩ := splitK_pieces k r
      simp only [List.length_cons]
      exact ⟨fun h' => by rw [i1 (by omega)], fun h' => by rw [i2 (by omega)]⟩
theorem pieces_length_le (l : Txt) : (pieces l).length ≤ l.length + 1 := by
  induction l with
  | nil => simp [pieces]
  | cons c r ih =>
    by_cases h : c = 47
    · subst h; rw [pieces_slash]; simp; omega
    · obtain ⟨x, q, hr⟩ : ∃ x q, pieces r = x :: q := by
        cases hh : pieces r with
        | nil => exact absurd hh (pieces_ne r)
        | cons x q => exact ⟨x, q, rfl⟩
      rw [pieces_byte h hr]
      rw [hr] at ih
      simp at ih ⊢; omega
/-- What strings.SplitN gives of a text, at most nine. -/
theorem split9 (s : Txt) : let q := splitK [47] 0 (min 9 (s.length + 1) - 1) s
    ((pieces s).length ≤ 8 → q = pieces s) ∧ (8 < (pieces s).length → q.length = 9) := by
  have hl := pieces_length_le s
  obtain ⟨h1, h2⟩ := splitK_pieces (min 9 (s.length + 1) - 1) s
  refine ⟨fun h => h1 (by omega), fun h => ?_⟩
  rcases Nat.lt_or_ge 9 (pieces s).length with h' | h'
  · have e : min 9 (s.length + 1) - 1 = 8 := by omega
    rw [e] at h1 h2 ⊢
    exact h2 (by omega)
  · have e : min 9 (s.length + 1) - 1 = 8 := by omega
    rw [e] at h1 h2 ⊢
    rw [h1 (by omega)]
    omega
end Go.Proofs.Ytncenfgnhamdbaa
