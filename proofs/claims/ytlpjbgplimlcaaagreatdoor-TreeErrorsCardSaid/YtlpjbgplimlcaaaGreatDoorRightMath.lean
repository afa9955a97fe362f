/-
  What the reference's Right reckons, over a tree: how often each node is an entry's, each node's kind, what is reached. Over no program.
-/
import Derived.Test.YtlpjbgplimlcaaaGreatDoorTreeReach
import Derived.Test.YtlpjbgplimlcaaaGreatDoorNds
namespace Go.Proofs.YtlpjbgplimlcaaaGreatDoor
open Go.RowKit

theorem having_sorted (t : Tr) : (having t).Pairwise (· < ·) := List.Pairwise.filter _ List.pairwise_lt_range
theorem having_lt {t : Tr} {i j : Nat} (hij : i < j) (hj : j < (having t).length) : (having t)[i]'(Nat.lt_trans hij hj) < (having t)[j] :=
  List.pairwise_iff_getElem.1 (having_sorted t) i j _ hj hij
/-- How often a node is an entry's, in the first k nodes. -/
def seenK (t : Tr) (ns : List Nat) (m : Nat) : Nat := (ns.map fun n => refs (t n).entries m).sum
theorem seenK_snoc (t : Tr) (ns : List Nat) (n m : Nat) : seenK t (ns ++ [n]) m = seenK t ns m + refs (t n).entries m := by simp [seenK]
theorem seenK_all {t : Tr} (g : Good t) (m : Nat) : seenK t (having t) m = allRefs t m := by
  unfold seenK allRefs having
  have key : ∀ l : List Nat, ((l.filter fun n => decide ((t n).kind ≠ 0)).map fun n => refs (t n).entries m).sum = (l.map fun n => refs (t n).entries m).sum := fun l => by
    induction l with
    | nil => rfl
    | cons a l ih =>
      rw [List.filter_cons, List.map_cons, List.sum_cons]
      by_cases h : (t a).kind = 0
      · rw [if_neg (by simpa using h), ih, g.void a h]
        simp [noNode, refs]
      · rw [if_pos (by simpa using h), List.map_cons, List.sum_cons, ih]
  exact key _
theorem refs_snoc (es : Row) (e : Txt × Nat) (m : Nat) : refs (es ++ [e]) m = refs es m + if e.2 = m then 1 else 0 := by
  unfold refs
  rw [List.countP_append, List.countP_singleton]
  by_cases h : e.2 = m <;> simp [h]
/-- A function with another value at one place. -/
def upN {α : Type} (S : Nat → α) (m : Nat) (v : α) : Nat → α := fun k => if k = m then v else S k
theorem upN_same {α : Type} (S : Nat → α) (m : Nat) (v : α) : upN S m v m = v := if_pos rfl
/-- The number of entries of which each node is, up to an entry of a node. -/
def seenJ (t : Tr) (ns : List Nat) (es : Row) : Nat → Nat := fun m => seenK t ns m + refs es m
theorem seenJ_nil (t : Tr) (ns : List Nat) : seenJ t ns [] = seenK t ns := by
  funext m
  simp [seenJ, refs]
theorem seenJ_snoc (t : Tr) (ns : List Nat) (es : Row) (e : Txt × Nat) : seenJ t ns (es ++ [e]) = upN (seenJ t ns es) e.2 (seenJ t ns es e.2 + 1) := by
  funext m
  simp only [seenJ, upN]
  rw [refs_snoc]
  by_cases h : m = e.2
  · subst h; rw [if_pos rfl, if_pos rfl]; omega
  · rw [if_neg (fun h' => h h'.symm), if_neg h]; omega
theorem seenJ_all (t : Tr) (ns : List Nat) (n : Nat) : seenJ t ns (t n).entries = seenK t (ns ++ [n]) := by
  funext m
  rw [seenK_snoc]
  rfl
theorem seenK_le {t : Tr} {M : Nat} (h : ∀ n, (t n).entries.length ≤ M) : ∀ (ns : List Nat) (m : Nat), seenK t ns m ≤ ns.length * M
  | [], m => by simp [seenK]
  | n :: ns, m => by
    have ih := seenK_le h ns m
    have h1 : refs (t n).entries m ≤ (t n).entries.length := List.countP_le_length
    have h2 := h n
    show refs (t n).entries m + seenK t ns m ≤ (ns.length + 1) * M
    rw [Nat.add_mul]
    omega
theorem seenJ_le {t : Tr} {M : Nat} (h : ∀ n, (t n).entries.length ≤ M) (ns : List Nat) (es : Row) (m : Nat) : seenJ t ns es m ≤ ns.length * M + es.length := by
  have h1 := seenK_le h ns m
  have h2 : refs es m ≤ es.length := List.countP_le_length
  show seenK t ns m + refs es m ≤ _
  omega
/-- The kinds of the first k nodes. -/
def kindK (t : Tr) (ns : List Nat) : Nat → Nat := fun m => if m ∈ ns then (t m).kind else 0
theorem kindK_snoc (t : Tr) (ns : List Nat) (n : Nat) : kindK t (ns ++ [n]) = upN (kindK t ns) n (t n).kind := by
  funext m
  unfold kindK upN
  by_cases h : m = n
  · subst h; simp
  · simp [h]
theorem kindK_all {t : Tr} (g : Good t) (m : Nat) : kindK t (having t) m = (t m).kind := by
  unfold kindK
  by_cases h : (t m).kind = 0
  · rw [if_neg (fun hm => (having_mem.1 hm).2 h), h]
  · rw [if_pos (having_mem.2 ⟨g.lt h, h⟩)]
theorem seen_kind {t : Tr} (g : Good t) {m : Nat} (h : 0 < allRefs t m) : (t m).kind ≠ 0 := fun h0 => by
  rw [g.zero_refs (.inl h0)] at h
  omega
/-- What is marked of a node's entries. -/
def markJ (S : Nat → Bool) (n : Nat) (es : Row) : Nat → Bool := if S n then mark S es else S
theorem markJ_nil (S : Nat → Bool) (n : Nat) : markJ S n [] = S := by
  unfold markJ mark
  split
  · funext k; simp
  · rfl
theorem mark_snoc (S : Nat → Bool) (es : Row) (e : Txt × Nat) : mark S (es ++ [e]) = upN (mark S es) e.2 true := by
  funext k
  unfold mark upN
  rw [List.any_append]
  by_cases h : k = e.2
  · subst h; simp
  · have : decide (e.2 = k) = false := decide_eq_false fun h' => h h'.symm
    simp [h, this]
theorem markJ_at (S : Nat → Bool) (n : Nat) (es : Row) : markJ S n es n = S n := by
  unfold markJ
  by_cases h : S n = true
  · rw [if_pos h, h]; exact mark_old h
  · rw [if_neg h]
theorem markJ_yes {S : Nat → Bool} {n : Nat} (h : S n = true) (es : Row) (e : Txt × Nat) : markJ S n (es ++ [e]) = upN (markJ S n es) e.2 true := by
  unfold markJ
  rw [if_pos h, if_pos h, mark_snoc]
theorem markJ_no {S : Nat → Bool} {n : Nat} (h : S n = false) (es : Row) (e : Txt × Nat) : markJ S n (es ++ [e]) = markJ S n es := by
  unfold markJ
  rw [if_neg (by rw [h]; decide), if_neg (by rw [h]; decide)]
theorem sweep_snoc (t : Tr) (ns : List Nat) (n : Nat) (S : Nat → Bool) : sweep t (ns ++ [n]) S = markJ (sweep t ns S) n (t n).entries := by
  unfold sweep
  rw [List.foldl_append]
  rfl
theorem sweep_nil (t : Tr) (S : Nat → Bool) : sweep t [] S = S := rfl
theorem sweeps_succ (t : Tr) (ns : List Nat) (S : Nat → Bool) (k : Nat) : sweeps t ns S (k + 1) = sweep t ns (sweeps t ns S k) := rfl
/-- The root alone. -/
def rootS : Nat → Bool := upN (fun _ => false) 0 true
theorem all_reached {t : Tr} (g : Good t) {n : Nat} (h : (t n).kind ≠ 0) : sweeps t (having t) rootS (having t).length n = true :=
  g.reached (fun n => ⟨fun h => (having_mem.1 h).2, fun h => having_mem.2 ⟨g.lt h, h⟩⟩) (upN_same _ _ _) n h
end Go.Proofs.YtlpjbgplimlcaaaGreatDoor
