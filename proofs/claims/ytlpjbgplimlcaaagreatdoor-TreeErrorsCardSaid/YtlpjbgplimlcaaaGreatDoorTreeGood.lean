/-
  What holds of every tree that calls lead to: each node is of as many entries as it has links, each directory but the root of one, and all directories stand beneath the root. Over no program.
-/
import Derived.Test.YtlpjbgplimlcaaaGreatDoorTreeMath
namespace Go.Proofs.YtlpjbgplimlcaaaGreatDoor

/-- How many entries of all directories are of a node. -/
def allRefs (t : Tr) (n : Nat) : Nat := ((List.range 64).map fun m => refs (t m).entries n).sum
theorem sum_change (f g : Nat → Nat) (p : Nat) (h : ∀ m, m ≠ p → f m = g m) : ∀ N, (N ≤ p → ((List.range N).map f).sum = ((List.range N).map g).sum) ∧ (p < N → ((List.range N).map f).sum + g p = ((List.range N).map g).sum + f p) := by
  intro N
  induction N with
  | zero => exact ⟨fun _ => rfl, fun h => by omega⟩
  | succ N ih =>
    obtain ⟨i1, i2⟩ := ih
    simp only [List.range_succ, List.map_append, List.map_cons, List.map_nil, List.sum_append, List.sum_cons, List.sum_nil, Nat.add_zero]
    refine ⟨fun hp => ?_, fun hp => ?_⟩
    · rw [i1 (by omega), h N (by omega)]
    · by_cases e : p = N
      · subst e
        rw [i1 (Nat.le_refl _)]
        omega
      · have := i2 (by omega)
        rw [h N (fun e' => e e'.symm)]
        omega
theorem allRefs_change {t u : Tr} {p : Nat} (hp : p < 64) (h : ∀ m, m ≠ p → (u m).entries = (t m).entries) (n : Nat) : allRefs u n + refs (t p).entries n = allRefs t n + refs (u p).entries n :=
  (sum_change (fun m => refs (u m).entries n) (fun m => refs (t m).entries n) p (fun m hm => by rw [h m hm]) 64).2 hp
theorem allRefs_same {t u : Tr} (h : ∀ m, (u m).entries = (t m).entries) (n : Nat) : allRefs u n = allRefs t n := by
  unfold allRefs
  congr 1
  exact List.map_congr_left fun m _ => by rw [h m]
theorem sum_ge (f : Nat → Nat) {p : Nat} : ∀ N, p < N → f p ≤ ((List.range N).map f).sum := by
  intro N
  induction N with
  | zero => intro h; omega
  | succ N ih =>
    intro h
    simp only [List.range_succ, List.map_append, List.map_cons, List.map_nil, List.sum_append, List.sum_cons, List.sum_nil, Nat.add_zero]
    by_cases e : p = N
    · subst e; omega
    · have := ih (by omega); omega
theorem sum_two (f : Nat → Nat) {p q : Nat} (hpq : p ≠ q) : ∀ N, p < N → q < N → f p + f q ≤ ((List.range N).map f).sum := by
  intro N
  induction N with
  | zero => intro h; omega
  | succ N ih =>
    intro h1 h2
    simp only [List.range_succ, List.map_append, List.map_cons, List.map_nil, List.sum_append, List.sum_cons, List.sum_nil, Nat.add_zero]
    by_cases e : p = N
    · subst e
      have := sum_ge f (p := q) p (by omega)
      omega
    · by_cases e2 : q = N
      · subst e2
        have := sum_ge f (p := p) q (by omega)
        omega
      · have := ih (by omega) (by omega)
        omega
theorem sum_pos (f : Nat → Nat) : ∀ N, 0 < ((List.range N).map f).sum → ∃ m, m < N ∧ 0 < f m := by
  intro N
  induction N with
  | zero => intro h; exact absurd h (by simp)
  | succ N ih =>
    intro h
    simp only [List.range_succ, List.map_append, List.map_cons, List.map_nil, List.sum_append, List.sum_cons, List.sum_nil, Nat.add_zero] at h
    by_cases e : 0 < f N
    · exact ⟨N, by omega, e⟩
    · obtain ⟨m, hm, hf⟩ := ih (by omega)
      exact ⟨m, by omega, hf⟩
theorem refs_mem {es : Row} {x : Txt} {n : Nat} (h : (x, n) ∈ es) : 1 ≤ refs es n := by
  unfold refs
  exact List.countP_pos_iff.2 ⟨_, h, by simp⟩
theorem refs_pos {es : Row} {n : Nat} (h : 0 < refs es n) : ∃ x, (x, n) ∈ es := by
  unfold refs at h
  obtain ⟨e, he, hp⟩ := List.countP_pos_iff.1 h
  refine ⟨e.1, ?_⟩
  have : e.2 = n := by simpa using hp
  rw [← this]
  exact he

structure Good (t : Tr) : Prop where
  root : (t 0).kind = 1 ∧ (t 0).links = 1
  top : ∀ n, 64 ≤ n → (t n).kind = 0
  void : ∀ n, (t n).kind = 0 → t n = noNode
  kinds : ∀ n, (t n).kind ≤ 2
  dir : ∀ n, (t n).kind = 1 → (t n).links = 1 ∧ (t n).data = []
  file : ∀ n, (t n).kind = 2 → (t n).entries = [] ∧ (t n).data.length ≤ 512
  rising : ∀ n, Rising (t n).entries
  entry : ∀ n, ∀ e ∈ (t n).entries, IsName e.1 ∧ e.2 ≠ 0 ∧ (t e.2).kind ≠ 0
  count : ∀ n, n ≠ 0 → (t n).kind ≠ 0 → allRefs t n = (t n).links ∧ 1 ≤ (t n).links
  rank : ∃ d : Nat → Nat, ∀ n, ∀ e ∈ (t n).entries, (t e.2).kind = 1 → d n < d e.2
namespace Good
variable {t : Tr}
theorem lt (g : Good t) {n : Nat} (h : (t n).kind ≠ 0) : n < 64 := by
  rcases Nat.lt_or_ge n 64 with h' | h'
  · exact h'
  · exact absurd (g.top n h') h
theorem isDir (g : Good t) {n : Nat} {e : Txt × Nat} (h : e ∈ (t n).entries) : (t n).kind = 1 := by
  have h1 := g.kinds n
  have h2 : (t n).kind ≠ 0 := fun h0 => by rw [g.void n h0] at h; cases h
  have h3 : (t n).kind ≠ 2 := fun h0 => by rw [(g.file n h0).1] at h; cases h
  omega
theorem zero_refs (g : Good t) {n : Nat} (h : (t n).kind = 0 ∨ n = 0) : allRefs t n = 0 := by
  apply Classical.byContradiction
  intro hne
  obtain ⟨m, _, hm⟩ := sum_pos _ 64 (Nat.pos_of_ne_zero hne)
  obtain ⟨x, hx⟩ := refs_pos hm
  have := g.entry m _ hx
  rcases h with h | h
  · exact this.2.2 h
  · exact this.2.1 h
/-- A directory is of one entry alone. -/
theorem only (g : Good t) {n m m' : Nat} {x x' : Txt} (hd : (t n).kind = 1) (h : look (t m).entries x = some n) (h' : look (t m').entries x' = some n) : m = m' ∧ x = x' := by
  have e1 := look_mem h
  have e2 := look_mem h'
  have hn := (g.entry m _ e1).2.1
  have hc := (g.count n hn (by omega)).1
  rw [(g.dir n hd).1] at hc
  have hm := g.lt (n := m) (by rw [g.isDir e1]; omega)
  have hm' := g.lt (n := m') (by rw [g.isDir e2]; omega)
  have r1 := refs_mem e1
  have r2 := refs_mem e2
  have hmm : m = m' := by
    apply Classical.byContradiction
    intro hne
    have h2 : refs (t m).entries n + refs (t m').entries n ≤ allRefs t n := sum_two (fun k => refs (t k).entries n) hne 64 hm hm'
    omega
  subst hmm
  refine ⟨rfl, ?_⟩
  apply Classical.byContradiction
  intro hne
  have h1 : refs (t m).entries n ≤ allRefs t n := sum_ge (fun k => refs (t k).entries n) 64 hm
  have h2 := refs_drop (g.rising m) h n
  have h3 : look (drop (t m).entries x) x' = some n := by rw [look_drop, if_neg (fun e => hne e.symm)]; exact h'
  have h4 := refs_mem (look_mem h3)
  rw [if_pos rfl] at h2
  omega
end Good

theorem walk_append (t : Tr) : ∀ (n : Nat) (xs ys : List Txt), walk t n (xs ++ ys) = match walk t n xs with | .error e => .error e | .ok m => walk t m ys
  | n, [], ys => rfl
  | n, x :: r, ys => by
    rw [List.cons_append, walk, walk]
    split
    · rfl
    · split
      · rfl
      · exact walk_append t _ r ys
theorem walk_snoc {t : Tr} {n k : Nat} {xs : List Txt} {x : Txt} (h : walk t n (xs ++ [x]) = .ok k) : ∃ m, walk t n xs = .ok m ∧ (t m).kind = 1 ∧ look (t m).entries x = some k := by
  rw [walk_append] at h
  split at h
  · cases h
  · next m hm =>
    rw [walk] at h
    split at h
    · cases h
    · next hk =>
      split at h
      · cases h
      · next k' hk' =>
        rw [walk] at h
        injection h with h
        subst h
        exact ⟨m, hm, by omega, hk'⟩
theorem walk_snoc_ok {t : Tr} {n m k : Nat} {xs : List Txt} {x : Txt} (h : walk t n xs = .ok m) (hk : (t m).kind = 1) (hl : look (t m).entries x = some k) : walk t n (xs ++ [x]) = .ok k := by
  rw [walk_append, h]
  show walk t m [x] = _
  rw [walk, if_neg (by omega), hl]
  rfl
/-- What is walked to is a node. -/
theorem Good.walked {t : Tr} (g : Good t) : ∀ {xs : List Txt} {n m : Nat}, (t n).kind ≠ 0 → walk t n xs = .ok m → (t m).kind ≠ 0
  | [], n, m, hn, h => by
    rw [walk] at h
    injection h with h
    subst h
    exact hn
  | x :: r, n, m, hn, h => by
    rw [walk] at h
    split at h
    · cases h
    · split at h
      · cases h
      · next k hk => exact Good.walked g (g.entry n _ (look_mem hk)).2.2 h
/-- The root is at no end of a way. -/
theorem Good.not_root {t : Tr} (g : Good t) {xs : List Txt} {n : Nat} {x : Txt} {k : Nat} (h : walk t n (xs ++ [x]) = .ok k) : k ≠ 0 := by
  obtain ⟨m, _, _, hl⟩ := walk_snoc h
  exact (g.entry m _ (look_mem hl)).2.1
/-- There is one way to a directory. -/
theorem Good.one_way {t : Tr} (g : Good t) : ∀ (N : Nat) {xs ys : List Txt} {n : Nat}, xs.length ≤ N → walk t 0 xs = .ok n → walk t 0 ys = .ok n → (t n).kind = 1 → xs = ys
  | N, xs, ys, n, hN, hx, hy, hd => by
    rcases List.eq_nil_or_concat xs with rfl | ⟨xs', x, rfl⟩
    · rw [walk] at hx
      injection hx with hx
      subst hx
      rcases List.eq_nil_or_concat ys with rfl | ⟨ys', y, rfl⟩
      · rfl
      · rw [List.concat_eq_append] at hy
        exact absurd rfl (g.not_root hy)
    · rw [List.concat_eq_append] at hx hN ⊢
      rcases List.eq_nil_or_concat ys with rfl | ⟨ys', y, rfl⟩
      · rw [walk] at hy
        injection hy with hy
        subst hy
        exact absurd rfl (g.not_root hx)
      · rw [List.concat_eq_append] at hy ⊢
        obtain ⟨m, hm, hmd, hml⟩ := walk_snoc hx
        obtain ⟨m', hm', hmd', hml'⟩ := walk_snoc hy
        obtain ⟨rfl, rfl⟩ := g.only hd hml hml'
        match N, hN with
        | 0, hN => simp at hN
        | N + 1, hN => rw [Good.one_way g N (by simp at hN; omega) hm hm' hmd]

/-- A new node. -/
theorem Good.make {t : Tr} (g : Good t) {kind d n : Nat} {x : Txt} (hk : kind = 1 ∨ kind = 2) (hd : (t d).kind = 1) (hx : look (t d).entries x = none) (hnm : IsName x) (hn : (t n).kind = 0) (hn64 : n < 64) :
    Good ((t.set n ⟨kind, 1, [], []⟩).rows d (put (t d).entries x n)) := by
  have hdn : d ≠ n := fun e => by rw [e, hn] at hd; cases hd
  have hn0 : n ≠ 0 := fun e => by rw [e, g.root.1] at hn; cases hn
  have hd64 := g.lt (n := d) (by omega)
  have hne : (t n).entries = [] := by rw [g.void n hn]; rfl
  have E : ∀ m, (((t.set n ⟨kind, 1, [], []⟩).rows d (put (t d).entries x n)) m).entries = if m = d then put (t d).entries x n else (t m).entries := fun m => by
    rw [Tr.rows_entries]
    by_cases h1 : m = d
    · rw [if_pos h1, if_pos h1]
    · rw [if_neg h1, if_neg h1]
      by_cases h2 : m = n
      · rw [h2, Tr.set_same, hne]
      · rw [Tr.set_other h2]
  have K : ∀ m, (((t.set n ⟨kind, 1, [], []⟩).rows d (put (t d).entries x n)) m).kind = if m = n then kind else (t m).kind := fun m => by
    rw [Tr.rows_kind]
    by_cases h2 : m = n
    · rw [h2, Tr.set_same, if_pos rfl]
    · rw [Tr.set_other h2, if_neg h2]
  have L : ∀ m, (((t.set n ⟨kind, 1, [], []⟩).rows d (put (t d).entries x n)) m).links = if m = n then 1 else (t m).links := fun m => by
    rw [Tr.rows_links]
    by_cases h2 : m = n
    · rw [h2, Tr.set_same, if_pos rfl]
    · rw [Tr.set_other h2, if_neg h2]
  have D : ∀ m, (((t.set n ⟨kind, 1, [], []⟩).rows d (put (t d).entries x n)) m).data = if m = n then [] else (t m).data := fun m => by
    rw [Tr.rows_data]
    by_cases h2 : m = n
    · rw [h2, Tr.set_same, if_pos rfl]
    · rw [Tr.set_other h2, if_neg h2]
  have hnone : ∀ m, m ≠ n → m ≠ d → ((t.set n ⟨kind, 1, [], []⟩).rows d (put (t d).entries x n)) m = t m := fun m h1 h2 => by
    unfold Tr.rows
    rw [Tr.set_other h2, Tr.set_other h1]
  generalize (t.set n ⟨kind, 1, [], []⟩).rows d (put (t d).entries x n) = u at E K L D hnone
  have R : ∀ k, allRefs u k = allRefs t k + if n = k then 1 else 0 := fun k => by
    have := allRefs_change (t := t) (u := u) hd64 (fun m hm => by rw [E m, if_neg hm]) k
    rw [E d, if_pos rfl, refs_put] at this
    omega
  obtain ⟨rk, hrk⟩ := g.rank
  refine ⟨⟨?_, ?_⟩, fun m hm => ?_, fun m hm => ?_, fun m => ?_, fun m hm => ?_, fun m hm => ?_, fun m => ?_, fun m e he => ?_, fun m hm0 hm => ?_, ⟨fun k => if k = n then rk d + 1 else rk k, fun m e he hek => ?_⟩⟩
  · rw [K, if_neg (fun e => hn0 e.symm)]; exact g.root.1
  · rw [L, if_neg (fun e => hn0 e.symm)]; exact g.root.2
  · rw [K, if_neg (by omega)]; exact g.top m hm
  · rw [K] at hm
    by_cases h2 : m = n
    · rw [if_pos h2] at hm; omega
    · rw [if_neg h2] at hm
      have h1 : m ≠ d := fun e => by rw [e, hd] at hm; cases hm
      rw [hnone m h2 h1]
      exact g.void m hm
  · rw [K]
    split
    · omega
    · exact g.kinds m
  · rw [K] at hm
    rw [L, D]
    split at hm
    · next h2 => rw [if_pos h2, if_pos h2]; exact ⟨rfl, rfl⟩
    · next h2 => rw [if_neg h2, if_neg h2]; exact g.dir m hm
  · rw [K] at hm
    rw [E, D]
    have h1 : m ≠ d := fun e => by
      rw [e, if_neg hdn, hd] at hm; cases hm
    rw [if_neg h1]
    split at hm
    · next h2 => rw [if_pos h2, h2, hne]; exact ⟨rfl, by simp⟩
    · next h2 => rw [if_neg h2]; exact g.file m hm
  · rw [E]
    split
    · exact put_rising (g.rising d) hx n
    · exact g.rising m
  · rw [E] at he
    rw [K]
    split at he
    · rcases mem_put.1 he with rfl | he
      · exact ⟨hnm, hn0, by rw [if_pos rfl]; omega⟩
      · obtain ⟨a, b, c⟩ := g.entry d e he
        refine ⟨a, b, ?_⟩
        rw [if_neg (fun h => by rw [h] at c; exact c hn)]
        exact c
    · obtain ⟨a, b, c⟩ := g.entry m e he
      refine ⟨a, b, ?_⟩
      rw [if_neg (fun h => by rw [h] at c; exact c hn)]
      exact c
  · rw [R, L]
    rw [K] at hm
    by_cases h2 : m = n
    · rw [if_pos h2, h2, if_pos rfl, g.zero_refs (Or.inl hn)]
      exact ⟨rfl, Nat.le_refl _⟩
    · rw [if_neg h2] at hm ⊢
      rw [if_neg (fun e => h2 e.symm), Nat.add_zero]
      exact g.count m hm0 hm
  · rw [E] at he
    rw [K] at hek
    have hmn : m ≠ n := fun h => by
      rw [h, if_neg (fun e => hdn e.symm), hne] at he
      cases he
    show (if m = n then rk d + 1 else rk m) < if e.2 = n then rk d + 1 else rk e.2
    rw [if_neg hmn]
    by_cases h2 : e.2 = n
    · rw [if_pos h2]
      split at he
      · next h1 => rw [h1]; omega
      · exact absurd hn (by have := (g.entry m e he).2.2; rw [h2] at this; exact this)
    · rw [if_neg h2] at hek ⊢
      split at he
      · next h1 =>
        rcases mem_put.1 he with rfl | he
        · exact absurd rfl h2
        · rw [h1]; exact hrk d e he hek
      · exact hrk m e he hek

/-- An entry goes; its node too, if that was its last one. -/
theorem Good.unlink {t : Tr} (g : Good t) {a p : Nat} {x : Txt} (hl : look (t p).entries x = some a) (hes : (t a).entries = []) : Good (unlinked t a p x) := by
  have hm := look_mem hl
  have hp := g.isDir hm
  have hp64 := g.lt (n := p) (by omega)
  obtain ⟨_, ha0, hak⟩ := g.entry p _ hm
  have hap : a ≠ p := fun e => by rw [e] at hes; rw [hes] at hl; cases hl
  have hcount := g.count a ha0 hak
  have E : ∀ m, (unlinked t a p x m).entries = if m = p then drop (t p).entries x else (t m).entries := fun m => by
    unfold unlinked
    by_cases h1 : m = a
    · rw [h1, Tr.set_same, if_neg hap, hes]
      split
      · rfl
      · rfl
    · rw [Tr.set_other h1, Tr.rows_entries]
  have K : ∀ m, (unlinked t a p x m).kind = if m = a ∧ (t a).links = 1 then 0 else (t m).kind := fun m => by
    unfold unlinked
    by_cases h1 : m = a
    · rw [h1, Tr.set_same]
      split
      · next h => rw [if_pos ⟨rfl, h⟩]; rfl
      · next h => rw [if_neg (fun h' => h h'.2)]
    · rw [Tr.set_other h1, Tr.rows_kind, if_neg (fun h' => h1 h'.1)]
  have L : ∀ m, (unlinked t a p x m).links = if m = a then (t a).links - 1 else (t m).links := fun m => by
    unfold unlinked
    by_cases h1 : m = a
    · rw [h1, Tr.set_same, if_pos rfl]
      split
      · next h => rw [h]; rfl
      · rfl
    · rw [Tr.set_other h1, Tr.rows_links, if_neg h1]
  have D : ∀ m, (unlinked t a p x m).data = if m = a ∧ (t a).links = 1 then [] else (t m).data := fun m => by
    unfold unlinked
    by_cases h1 : m = a
    · rw [h1, Tr.set_same]
      split
      · next h => rw [if_pos ⟨rfl, h⟩]; rfl
      · next h => rw [if_neg (fun h' => h h'.2)]
    · rw [Tr.set_other h1, Tr.rows_data, if_neg (fun h' => h1 h'.1)]
  have hgone : (t a).links = 1 → unlinked t a p x a = noNode := fun h => by
    unfold unlinked
    rw [Tr.set_same, if_pos h]
  have hsame : ∀ m, m ≠ a → m ≠ p → unlinked t a p x m = t m := fun m h1 h2 => by
    unfold unlinked Tr.rows
    rw [Tr.set_other h1, Tr.set_other h2]
  generalize unlinked t a p x = u at E K L D hgone hsame
  have R : ∀ k, allRefs u k + (if a = k then 1 else 0) = allRefs t k := fun k => by
    have := allRefs_change (t := t) (u := u) hp64 (fun m hm => by rw [E m, if_neg hm]) k
    rw [E p, if_pos rfl, refs_drop (g.rising p) hl k] at this
    omega
  have sub : ∀ m, ∀ e ∈ (u m).entries, e ∈ (t m).entries := fun m e he => by
    rw [E] at he
    split at he
    · next h => rw [h]; exact (mem_drop.1 he).1
    · exact he
  obtain ⟨rk, hrk⟩ := g.rank
  refine ⟨⟨?_, ?_⟩, fun m hm => ?_, fun m hm => ?_, fun m => ?_, fun m hm => ?_, fun m hm => ?_, fun m => ?_, fun m e he => ?_, fun m hm0 hm => ?_, ⟨rk, fun m e he hek => ?_⟩⟩
  · rw [K, if_neg (fun h => ha0 h.1.symm)]; exact g.root.1
  · rw [L, if_neg (fun h => ha0 h.symm)]; exact g.root.2
  · rw [K]
    split
    · rfl
    · exact g.top m hm
  · rw [K] at hm
    split at hm
    · next h => rw [h.1]; exact hgone h.2
    · next h =>
      have h1 : m ≠ p := fun e => by rw [e, hp] at hm; cases hm
      have h2 : m ≠ a := fun e => by rw [e] at hm; exact hak hm
      rw [hsame m h2 h1]
      exact g.void m hm
  · rw [K]
    split
    · omega
    · exact g.kinds m
  · rw [K] at hm
    split at hm
    · cases hm
    · next h =>
      obtain ⟨d1, d2⟩ := g.dir m hm
      rw [L, D, if_neg h]
      refine ⟨?_, d2⟩
      split
      · next h2 => exact absurd ⟨h2, by rw [← h2]; exact d1⟩ h
      · exact d1
  · rw [K] at hm
    split at hm
    · cases hm
    · next h =>
      rw [E, D, if_neg h, if_neg (fun e => by rw [e, hp] at hm; cases hm)]
      exact g.file m hm
  · rw [E]
    split
    · exact drop_rising (g.rising p) x
    · exact g.rising m
  · obtain ⟨e1, e2, e3⟩ := g.entry m e (sub m e he)
    refine ⟨e1, e2, ?_⟩
    rw [K]
    split
    · next h =>
      exfalso
      have h64 : m < 64 := g.lt (by rw [g.isDir (sub m e he)]; omega)
      have h1 := refs_mem (es := (u m).entries) (x := e.1) (n := e.2) he
      have h2 : refs (u m).entries e.2 ≤ allRefs u e.2 := sum_ge (fun k => refs (u k).entries e.2) 64 h64
      have h3 := R e.2
      rw [h.1, if_pos rfl, hcount.1, h.2] at h3
      rw [h.1] at h1 h2
      omega
    · exact e3
  · rw [K] at hm
    have h3 := R m
    split at hm
    · exact absurd rfl hm
    · next h =>
      obtain ⟨c1, c2⟩ := g.count m hm0 hm
      rw [L]
      by_cases h2 : m = a
      · rw [if_pos h2, ← h2]
        rw [if_pos h2.symm] at h3
        have : (t m).links ≠ 1 := fun h4 => h ⟨h2, by rw [← h2]; exact h4⟩
        omega
      · rw [if_neg h2]
        rw [if_neg (fun e => h2 e.symm)] at h3
        omega
  · rw [K] at hek
    split at hek
    · cases hek
    · exact hrk m e (sub m e he) hek

/-- One entry more of a file. -/
theorem Good.link {t : Tr} (g : Good t) {a d : Nat} {x : Txt} (ha : (t a).kind = 2) (hd : (t d).kind = 1) (hx : look (t d).entries x = none) (hnm : IsName x) :
    Good ((t.rows d (put (t d).entries x a)).set a ⟨(t a).kind, (t a).links + 1, (t a).data, (t a).entries⟩) := by
  have hd64 := g.lt (n := d) (by omega)
  have had : a ≠ d := fun e => by rw [e, hd] at ha; cases ha
  have ha0 : a ≠ 0 := fun e => by rw [e, g.root.1] at ha; cases ha
  have E : ∀ m, (((t.rows d (put (t d).entries x a)).set a ⟨(t a).kind, (t a).links + 1, (t a).data, (t a).entries⟩) m).entries = if m = d then put (t d).entries x a else (t m).entries := fun m => by
    by_cases h1 : m = a
    · rw [h1, Tr.set_same, if_neg had]
    · rw [Tr.set_other h1, Tr.rows_entries]
  have K : ∀ m, (((t.rows d (put (t d).entries x a)).set a ⟨(t a).kind, (t a).links + 1, (t a).data, (t a).entries⟩) m).kind = (t m).kind := fun m => by
    by_cases h1 : m = a
    · rw [h1, Tr.set_same]
    · rw [Tr.set_other h1, Tr.rows_kind]
  have L : ∀ m, (((t.rows d (put (t d).entries x a)).set a ⟨(t a).kind, (t a).links + 1, (t a).data, (t a).entries⟩) m).links = if m = a then (t a).links + 1 else (t m).links := fun m => by
    by_cases h1 : m = a
    · rw [h1, Tr.set_same, if_pos rfl]
    · rw [Tr.set_other h1, Tr.rows_links, if_neg h1]
  have D : ∀ m, (((t.rows d (put (t d).entries x a)).set a ⟨(t a).kind, (t a).links + 1, (t a).data, (t a).entries⟩) m).data = (t m).data := fun m => by
    by_cases h1 : m = a
    · rw [h1, Tr.set_same]
    · rw [Tr.set_other h1, Tr.rows_data]
  have hsame : ∀ m, m ≠ a → m ≠ d → ((t.rows d (put (t d).entries x a)).set a ⟨(t a).kind, (t a).links + 1, (t a).data, (t a).entries⟩) m = t m := fun m h1 h2 => by
    unfold Tr.rows
    rw [Tr.set_other h1, Tr.set_other h2]
  generalize (t.rows d (put (t d).entries x a)).set a ⟨(t a).kind, (t a).links + 1, (t a).data, (t a).entries⟩ = u at E K L D hsame
  have R : ∀ k, allRefs u k = allRefs t k + if a = k then 1 else 0 := fun k => by
    have := allRefs_change (t := t) (u := u) hd64 (fun m hm => by rw [E m, if_neg hm]) k
    rw [E d, if_pos rfl, refs_put] at this
    omega
  obtain ⟨rk, hrk⟩ := g.rank
  refine ⟨⟨?_, ?_⟩, fun m hm => ?_, fun m hm => ?_, fun m => ?_, fun m hm => ?_, fun m hm => ?_, fun m => ?_, fun m e he => ?_, fun m hm0 hm => ?_, ⟨rk, fun m e he hek => ?_⟩⟩
  · rw [K]; exact g.root.1
  · rw [L, if_neg (fun h => ha0 h.symm)]; exact g.root.2
  · rw [K]; exact g.top m hm
  · rw [K] at hm
    rw [hsame m (fun e => by rw [e, ha] at hm; cases hm) (fun e => by rw [e, hd] at hm; cases hm)]
    exact g.void m hm
  · rw [K]; exact g.kinds m
  · rw [K] at hm
    rw [L, D, if_neg (fun e => by rw [e, ha] at hm; cases hm)]
    exact g.dir m hm
  · rw [K] at hm
    rw [E, D, if_neg (fun e => by rw [e, hd] at hm; cases hm)]
    exact g.file m hm
  · rw [E]
    split
    · exact put_rising (g.rising d) hx a
    · exact g.rising m
  · rw [E] at he
    rw [K]
    split at he
    · rcases mem_put.1 he with rfl | he
      · exact ⟨hnm, ha0, by show (t a).kind ≠ 0; omega⟩
      · exact g.entry d e he
    · exact g.entry m e he
  · rw [K] at hm
    obtain ⟨c1, c2⟩ := g.count m hm0 hm
    rw [R, L]
    by_cases h2 : m = a
    · rw [if_pos h2, if_pos h2.symm, ← h2]
      omega
    · rw [if_neg h2, if_neg (fun e => h2 e.symm)]
      omega
  · rw [E] at he
    rw [K] at hek
    split at he
    · next h1 =>
      rcases mem_put.1 he with rfl | he
      · have hek : (t a).kind = 1 := hek
        rw [ha] at hek; cases hek
      · rw [h1]; exact hrk d e he hek
    · exact hrk m e he hek

theorem moved_entries (t : Tr) (a p : Nat) (x : Txt) (d : Nat) (y : Txt) (m : Nat) :
    (moved t a p x d y m).entries = if m = d then put (if d = p then drop (t p).entries x else (t d).entries) y a else if m = p then drop (t p).entries x else (t m).entries := by
  unfold moved
  rw [Tr.rows_entries, Tr.rows_entries, Tr.rows_entries]
theorem moved_kind (t : Tr) (a p : Nat) (x : Txt) (d : Nat) (y : Txt) (m : Nat) : (moved t a p x d y m).kind = (t m).kind := by
  unfold moved
  rw [Tr.rows_kind, Tr.rows_kind]
theorem moved_links (t : Tr) (a p : Nat) (x : Txt) (d : Nat) (y : Txt) (m : Nat) : (moved t a p x d y m).links = (t m).links := by
  unfold moved
  rw [Tr.rows_links, Tr.rows_links]
theorem moved_data (t : Tr) (a p : Nat) (x : Txt) (d : Nat) (y : Txt) (m : Nat) : (moved t a p x d y m).data = (t m).data := by
  unfold moved
  rw [Tr.rows_data, Tr.rows_data]
theorem moved_refs {t : Tr} (g : Good t) {a p d : Nat} {x y : Txt} (hl : look (t p).entries x = some a) (hd : (t d).kind = 1) (k : Nat) : allRefs (moved t a p x d y) k = allRefs t k := by
  have hp64 := g.lt (n := p) (by rw [g.isDir (look_mem hl)]; omega)
  have hd64 := g.lt (n := d) (by omega)
  have r1 := allRefs_change (t := t) (u := t.rows p (drop (t p).entries x)) hp64 (fun m hm => by rw [Tr.rows_entries, if_neg hm]) k
  rw [Tr.rows_entries, if_pos rfl, refs_drop (g.rising p) hl k] at r1
  have r2 := allRefs_change (t := t.rows p (drop (t p).entries x)) (u := moved t a p x d y) hd64 (fun m hm => by unfold moved; rw [Tr.rows_entries (t := t.rows p (drop (t p).entries x)), if_neg hm]) k
  have e : (moved t a p x d y d).entries = put ((t.rows p (drop (t p).entries x)) d).entries y a := by unfold moved; rw [Tr.rows_entries (t := t.rows p (drop (t p).entries x)), if_pos rfl]
  rw [e, refs_put] at r2
  omega

open Classical in
/-- An entry goes elsewhere: a directory not beneath itself. -/
theorem Good.move {t : Tr} (g : Good t) {a p d : Nat} {x y : Txt} (hl : look (t p).entries x = some a) (hd : (t d).kind = 1) (hy : look (t d).entries y = none) (hnm : IsName y) (hno : (t a).kind = 1 → ∀ rs, walk t a rs ≠ .ok d) :
    Good (moved t a p x d y) := by
  have hm := look_mem hl
  have hp := g.isDir hm
  obtain ⟨_, ha0, hak⟩ := g.entry p _ hm
  have E := moved_entries t a p x d y
  have K := moved_kind t a p x d y
  have L := moved_links t a p x d y
  have D := moved_data t a p x d y
  have R := moved_refs (x := x) (y := y) g hl hd
  generalize moved t a p x d y = u at E K L D R
  have hrise : Rising (if d = p then drop (t p).entries x else (t d).entries) := by
    split
    · exact drop_rising (g.rising p) x
    · exact g.rising d
  have hlook : look (if d = p then drop (t p).entries x else (t d).entries) y = none := by
    split
    · next h =>
      rw [look_drop]
      split
      · rfl
      · rw [← h]; exact hy
    · exact hy
  have mem : ∀ m, ∀ e ∈ (u m).entries, (m = d ∧ e = (y, a)) ∨ (e ∈ (t m).entries ∧ (m = p → e.1 ≠ x)) := fun m e he => by
    rw [E] at he
    split at he
    · next h1 =>
      rcases mem_put.1 he with rfl | he
      · exact Or.inl ⟨h1, rfl⟩
      · split at he
        · next h2 =>
          obtain ⟨q1, q2⟩ := mem_drop.1 he
          exact Or.inr ⟨by rw [h1, h2]; exact q1, fun _ => q2⟩
        · next h2 => exact Or.inr ⟨by rw [h1]; exact he, fun h3 => absurd (h1.symm.trans h3) h2⟩
    · split at he
      · next h2 =>
        obtain ⟨q1, q2⟩ := mem_drop.1 he
        exact Or.inr ⟨by rw [h2]; exact q1, fun _ => q2⟩
      · next h2 => exact Or.inr ⟨he, fun h3 => absurd h3 h2⟩
  obtain ⟨rk, hrk⟩ := g.rank
  refine ⟨⟨?_, ?_⟩, fun m hm => ?_, fun m hm => ?_, fun m => ?_, fun m hm => ?_, fun m hm => ?_, fun m => ?_, fun m e he => ?_, fun m hm0 hm => ?_, ⟨fun k => if (t a).kind = 1 ∧ ∃ rs, walk t a rs = .ok k then rk k + rk d + 1 else rk k, fun m e he hek => ?_⟩⟩
  · rw [K]; exact g.root.1
  · rw [L]; exact g.root.2
  · rw [K]; exact g.top m hm
  · rw [K] at hm
    have h1 := g.void m hm
    have he : (u m).entries = [] := by
      rw [E, if_neg (fun e => by rw [e, hd] at hm; cases hm), if_neg (fun e => by rw [e, hp] at hm; cases hm), h1]
      rfl
    have hk := K m
    have hl := L m
    have hdd := D m
    rw [h1] at hk hl hdd
    cases hu : u m with
    | mk k l dd ee =>
      rw [hu] at hk hl hdd he
      have hk : k = 0 := hk
      have hl : l = 0 := hl
      have hdd : dd = [] := hdd
      have he : ee = [] := he
      subst hk hl hdd he
      rfl
  · rw [K]; exact g.kinds m
  · rw [K] at hm
    rw [L, D]
    exact g.dir m hm
  · rw [K] at hm
    rw [E, D, if_neg (fun e => by rw [e, hd] at hm; cases hm), if_neg (fun e => by rw [e, hp] at hm; cases hm)]
    exact g.file m hm
  · rw [E]
    split
    · exact put_rising hrise hlook a
    · split
      · exact drop_rising (g.rising p) x
      · exact g.rising m
  · rw [K]
    rcases mem m e he with ⟨_, rfl⟩ | ⟨h, _⟩
    · exact ⟨hnm, ha0, hak⟩
    · exact g.entry m e h
  · rw [K] at hm
    rw [R, L]
    exact g.count m hm0 hm
  · rw [K] at hek
    show (if (t a).kind = 1 ∧ ∃ rs, walk t a rs = .ok m then rk m + rk d + 1 else rk m) < if (t a).kind = 1 ∧ ∃ rs, walk t a rs = .ok e.2 then rk e.2 + rk d + 1 else rk e.2
    rcases mem m e he with ⟨h1, rfl⟩ | ⟨h1, h2⟩
    · have hek : (t a).kind = 1 := hek
      rw [h1, if_neg (fun h => by obtain ⟨_, rs, hrs⟩ := h; exact hno hek rs hrs), if_pos ⟨hek, [], rfl⟩]
      omega
    · have hlt := hrk m e h1 hek
      have hmd := g.isDir h1
      have hle := look_of_mem (g.rising m) (x := e.1) (k := e.2) h1
      by_cases hb : (t a).kind = 1 ∧ ∃ rs, walk t a rs = .ok m
      · obtain ⟨ha1, rs, hrs⟩ := hb
        rw [if_pos ⟨ha1, rs, hrs⟩, if_pos ⟨ha1, rs ++ [e.1], walk_snoc_ok hrs hmd hle⟩]
        omega
      · rw [if_neg hb, if_neg]
        · exact hlt
        · rintro ⟨ha1, rs, hrs⟩
          rcases List.eq_nil_or_concat rs with rfl | ⟨rs', z, rfl⟩
          · rw [walk] at hrs
            injection hrs with hrs
            rw [← hrs] at hle
            obtain ⟨q1, q2⟩ := g.only ha1 hle hl
            exact h2 q1 q2
          · rw [List.concat_eq_append] at hrs
            obtain ⟨m', hm', _, hl'⟩ := walk_snoc hrs
            obtain ⟨q1, _⟩ := g.only hek hle hl'
            rw [← q1] at hm'
            exact hb ⟨ha1, rs', hm'⟩

/-- Other bytes in a file. -/
theorem Good.filled {t : Tr} (g : Good t) {a : Nat} {b : Txt} (ha : (t a).kind = 2) (hb : b.length ≤ 512) : Good (t.bytes a b) := by
  have E : ∀ m, (t.bytes a b m).entries = (t m).entries := fun m => by
    unfold Tr.bytes
    by_cases h : m = a
    · rw [h, Tr.set_same]
    · rw [Tr.set_other h]
  have K : ∀ m, (t.bytes a b m).kind = (t m).kind := fun m => by
    unfold Tr.bytes
    by_cases h : m = a
    · rw [h, Tr.set_same]
    · rw [Tr.set_other h]
  have L : ∀ m, (t.bytes a b m).links = (t m).links := fun m => by
    unfold Tr.bytes
    by_cases h : m = a
    · rw [h, Tr.set_same]
    · rw [Tr.set_other h]
  have D : ∀ m, (t.bytes a b m).data = if m = a then b else (t m).data := fun m => by
    unfold Tr.bytes
    by_cases h : m = a
    · rw [h, Tr.set_same, if_pos rfl]
    · rw [Tr.set_other h, if_neg h]
  have S : ∀ m, m ≠ a → t.bytes a b m = t m := fun m h => Tr.set_other h _
  generalize t.bytes a b = u at E K L D S
  have R := allRefs_same (t := t) (u := u) E
  obtain ⟨rk, hrk⟩ := g.rank
  refine ⟨⟨?_, ?_⟩, fun m hm => ?_, fun m hm => ?_, fun m => ?_, fun m hm => ?_, fun m hm => ?_, fun m => ?_, fun m e he => ?_, fun m hm0 hm => ?_, ⟨rk, fun m e he hek => ?_⟩⟩
  · rw [K]; exact g.root.1
  · rw [L]; exact g.root.2
  · rw [K]; exact g.top m hm
  · rw [K] at hm
    rw [S m (fun e => by rw [e, ha] at hm; cases hm)]
    exact g.void m hm
  · rw [K]; exact g.kinds m
  · rw [K] at hm
    rw [L, D, if_neg (fun e => by rw [e, ha] at hm; cases hm)]
    exact g.dir m hm
  · rw [K] at hm
    rw [E, D]
    refine ⟨(g.file m hm).1, ?_⟩
    split
    · exact hb
    · exact (g.file m hm).2
  · rw [E]; exact g.rising m
  · rw [E] at he
    rw [K]
    exact g.entry m e he
  · rw [K] at hm
    rw [R, L]
    exact g.count m hm0 hm
  · rw [E] at he
    rw [K] at hek
    exact hrk m e he hek
theorem good_new : Good newT := by
  have hE : ∀ m, (newT m).entries = [] := fun m => by unfold newT; split <;> rfl
  refine ⟨⟨rfl, rfl⟩, fun n h => ?_, fun n h => ?_, fun n => ?_, fun n h => ?_, fun n h => ?_, fun n => ?_, fun n e he => ?_, fun n h0 h => ?_, ⟨fun _ => 0, fun n e he _ => ?_⟩⟩
  · unfold newT; rw [if_neg (by omega)]; rfl
  · unfold newT at h ⊢
    split
    · next hh => rw [if_pos hh] at h; cases h
    · rfl
  · unfold newT; split <;> simp [noNode]
  · unfold newT at h ⊢
    split
    · exact ⟨rfl, rfl⟩
    · next hh => rw [if_neg hh] at h; cases h
  · unfold newT at h
    split at h <;> cases h
  · rw [hE]; exact List.Pairwise.nil
  · rw [hE] at he; cases he
  · unfold newT at h
    rw [if_neg h0] at h
    exact absurd rfl h
  · rw [hE] at he; cases he
end Go.Proofs.YtlpjbgplimlcaaaGreatDoor
