/-
  All nodes of a tree stand beneath its root: so many times as there are nodes what is reached grows. Over no program.
-/
import Derived.Test.YtlpjbgplimlcaaaGreatDoorTreeDo
namespace Go.Proofs.YtlpjbgplimlcaaaGreatDoor

/-- What is reached when nodes are gone through once more, one behind the other: from each that is reached all that its entries are of. -/
def mark (S : Nat → Bool) (es : Row) : Nat → Bool := fun k => S k || es.any fun e => decide (e.2 = k)
def sweep (t : Tr) (ns : List Nat) (S : Nat → Bool) : Nat → Bool := ns.foldl (fun S n => if S n then mark S (t n).entries else S) S
def sweeps (t : Tr) (ns : List Nat) (S : Nat → Bool) : Nat → Nat → Bool
  | 0 => S
  | k + 1 => sweep t ns (sweeps t ns S k)
theorem mark_old {S : Nat → Bool} {es : Row} {k : Nat} (h : S k = true) : mark S es k = true := by unfold mark; rw [h]; rfl
theorem mark_new {S : Nat → Bool} {es : Row} {e : Txt × Nat} (h : e ∈ es) : mark S es e.2 = true := by
  unfold mark
  rw [Bool.or_eq_true]
  exact Or.inr (List.any_eq_true.2 ⟨e, h, by simp⟩)
theorem sweep_old (t : Tr) : ∀ (ns : List Nat) {S : Nat → Bool} {k : Nat}, S k = true → sweep t ns S k = true
  | [], _, _, h => h
  | n :: r, S, k, h => by
    show sweep t r (if S n then mark S (t n).entries else S) k = true
    refine sweep_old t r ?_
    split
    · exact mark_old h
    · exact h
theorem sweep_new (t : Tr) : ∀ (ns : List Nat) {S : Nat → Bool} {n : Nat} {e : Txt × Nat}, n ∈ ns → S n = true → e ∈ (t n).entries → sweep t ns S e.2 = true
  | [], _, _, _, h, _, _ => by cases h
  | m :: r, S, n, e, h, hS, he => by
    show sweep t r (if S m then mark S (t m).entries else S) e.2 = true
    rcases List.mem_cons.1 h with rfl | h
    · rw [if_pos hS]
      exact sweep_old t r (mark_new he)
    · refine sweep_new t r h ?_ he
      split
      · exact mark_old hS
      · exact hS
theorem sweeps_old (t : Tr) (ns : List Nat) {S : Nat → Bool} {k : Nat} (h : S k = true) : ∀ j, sweeps t ns S j k = true
  | 0 => h
  | j + 1 => sweep_old t ns (sweeps_old t ns h j)
/-- How many of the nodes are reached. -/
def got (ns : List Nat) (S : Nat → Bool) : Nat := ns.countP S
theorem got_mono {ns : List Nat} {S S' : Nat → Bool} (h : ∀ k, S k = true → S' k = true) : got ns S ≤ got ns S' := List.countP_mono_left fun k _ hk => h k hk
theorem got_lt : ∀ {ns : List Nat} {S S' : Nat → Bool} (_ : ∀ k, S k = true → S' k = true) {k : Nat}, k ∈ ns → S k = false → S' k = true → got ns S < got ns S'
  | [], _, _, _, _, h, _, _ => by cases h
  | n :: r, S, S', hm, k, h, h1, h2 => by
    unfold got
    rw [List.countP_cons, List.countP_cons]
    rcases List.mem_cons.1 h with rfl | h
    · have := got_mono (ns := r) hm
      unfold got at this
      rw [h1, h2]
      simp
      omega
    · have := got_lt hm h h1 h2
      unfold got at this
      by_cases hn : S n = true
      · rw [if_pos hn, if_pos (hm n hn)]; omega
      · rw [if_neg hn]; omega
/-- Either all that is reached leads to what is reached, or more is reached. -/
theorem sweep_grows (t : Tr) (ns : List Nat) (S : Nat → Bool) (hall : ∀ n ∈ ns, ∀ e ∈ (t n).entries, e.2 ∈ ns) : (∀ n ∈ ns, S n = true → ∀ e ∈ (t n).entries, S e.2 = true) ∨ got ns S < got ns (sweep t ns S) := by
  by_cases h : ∀ n ∈ ns, S n = true → ∀ e ∈ (t n).entries, S e.2 = true
  · exact Or.inl h
  · refine Or.inr ?_
    simp only [Classical.not_forall] at h
    obtain ⟨n, hn, hS, e, he, hno⟩ := h
    exact got_lt (fun k hk => sweep_old t ns hk) (hall n hn e he) (by simpa using hno) (sweep_new t ns hn hS he)
/-- What is closed and has the root has all. -/
theorem Good.closed {t : Tr} (g : Good t) {S : Nat → Bool} (h0 : S 0 = true) (hc : ∀ n, (t n).kind ≠ 0 → S n = true → ∀ e ∈ (t n).entries, S e.2 = true) : ∀ n, (t n).kind ≠ 0 → S n = true := by
  obtain ⟨rk, hrk⟩ := g.rank
  have dirs : ∀ N n, rk n < N → (t n).kind = 1 → S n = true := fun N => by
    induction N with
    | zero => intro n h; omega
    | succ N ih =>
      intro n hN hk
      by_cases hn : n = 0
      · rw [hn]; exact h0
      · have hcount := (g.count n hn (by omega)).1
        rw [(g.dir n hk).1] at hcount
        obtain ⟨m, _, hm⟩ := sum_pos (fun m => refs (t m).entries n) 64 (by unfold allRefs at hcount; omega)
        obtain ⟨x, hx⟩ := refs_pos hm
        have hmd := g.isDir hx
        have hlt := hrk m _ hx hk
        have hlt : rk m < rk n := hlt
        exact hc m (by omega) (ih m (by omega) hmd) _ hx
  intro n hn
  by_cases hk : (t n).kind = 1
  · exact dirs _ n (Nat.lt_succ_self _) hk
  · have hn0 : n ≠ 0 := fun e => hk (by rw [e]; exact g.root.1)
    obtain ⟨c1, c2⟩ := g.count n hn0 hn
    obtain ⟨m, _, hm⟩ := sum_pos (fun m => refs (t m).entries n) 64 (by unfold allRefs at c1; omega)
    obtain ⟨x, hx⟩ := refs_pos hm
    have hmd := g.isDir hx
    exact hc m (by omega) (dirs _ m (Nat.lt_succ_self _) hmd) _ hx
theorem Good.reached {t : Tr} (g : Good t) {ns : List Nat} (hns : ∀ n, n ∈ ns ↔ (t n).kind ≠ 0) {S : Nat → Bool} (h0 : S 0 = true) : ∀ n, (t n).kind ≠ 0 → sweeps t ns S ns.length n = true := by
  have hall : ∀ n ∈ ns, ∀ e ∈ (t n).entries, e.2 ∈ ns := fun n _ e he => (hns _).2 (g.entry n e he).2.2
  have key : ∀ j, (∃ i, i ≤ j ∧ ∀ n ∈ ns, sweeps t ns S i n = true → ∀ e ∈ (t n).entries, sweeps t ns S i e.2 = true) ∨ j + 1 ≤ got ns (sweeps t ns S j) := fun j => by
    induction j with
    | zero =>
      refine Or.inr ?_
      have h0ns : 0 ∈ ns := (hns 0).2 (by rw [g.root.1]; omega)
      have : 0 < got ns S := List.countP_pos_iff.2 ⟨0, h0ns, h0⟩
      exact this
    | succ j ih =>
      rcases ih with ⟨i, hi, h⟩ | h
      · exact Or.inl ⟨i, by omega, h⟩
      · rcases sweep_grows t ns (sweeps t ns S j) hall with h2 | h2
        · exact Or.inl ⟨j, by omega, h2⟩
        · refine Or.inr ?_
          have h2 : got ns (sweeps t ns S j) < got ns (sweeps t ns S (j + 1)) := h2
          omega
  have grow : ∀ i k, ∀ n, sweeps t ns S i n = true → sweeps t ns S (i + k) n = true := fun i k => by
    induction k with
    | zero => exact fun n h => h
    | succ k ih => exact fun n h => sweep_old t ns (ih n h)
  rcases key ns.length with ⟨i, hi, h⟩ | h
  · have hc := g.closed (S := sweeps t ns S i) (sweeps_old t ns h0 i) fun n hn => h n ((hns n).2 hn)
    intro n hn
    have := grow i (ns.length - i) n (hc n hn)
    rw [show i + (ns.length - i) = ns.length by omega] at this
    exact this
  · exfalso
    have : got ns (sweeps t ns S ns.length) ≤ ns.length := List.countP_le_length
    omega
end Go.Proofs.YtlpjbgplimlcaaaGreatDoor
