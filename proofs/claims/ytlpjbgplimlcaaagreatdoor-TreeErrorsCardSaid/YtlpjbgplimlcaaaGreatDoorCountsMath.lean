/-
  Of a question about a path; sums over the nodes.
-/
import Derived.Test.YtlpjbgplimlcaaaGreatDoorTreeLaw
namespace Go.Proofs.YtlpjbgplimlcaaaGreatDoor
open Go.RowKit Go.Maps

theorem walk_err {t : Tr} : ∀ {ns : List Txt} {n k : Nat}, walk t n ns = .error k → k ≠ 0
  | [], n, k, h => by rw [walk] at h; cases h
  | x :: r, n, k, h => by
    rw [walk] at h
    split at h
    · injection h with h; omega
    · split at h
      · injection h with h; omega
      · exact walk_err h
theorem find_err {t : Tr} {s : Txt} {k : Nat} (h : find t s = .error k) : k ≠ 0 := by
  unfold find at h
  split at h
  · injection h with h; omega
  · exact walk_err h
theorem Good.found {t : Tr} (g : Good t) {s : Txt} {n : Nat} (h : find t s = .ok n) : (t n).kind ≠ 0 := by
  unfold find at h
  split at h
  · cases h
  · exact g.walked (by rw [g.root.1]; omega) h
/-- What is said of a path by the two questions. -/
theorem ask_two {t : Tr} (g : Good t) (s : Txt) :
    (∃ k, k ≠ 0 ∧ (doStat t s).1 = errA k ∧ (doList t s).1 = errA k) ∨
    ((doStat t s).1.err = 0 ∧ (doStat t s).1.kind = 1 ∧ (doList t s).1.err = 0 ∧ (doList t s).1.names.length = (doStat t s).1.size) ∨
    ((doStat t s).1.err = 0 ∧ (doStat t s).1.kind = 2 ∧ (doList t s).1.err = 23) := by
  rcases hf : find t s with k | n
  · exact .inl ⟨k, find_err hf, by rw [doStat_err' hf], by rw [doList_err' (.inl hf)]⟩
  · have h0 := g.found hf
    have h2 := g.kinds n
    by_cases h1 : (t n).kind = 1
    · refine .inr (.inl ?_)
      rw [doStat_ok hf, doList_ok hf h1]
      refine ⟨rfl, h1, rfl, ?_⟩
      simp [(g.dir n h1).2]
    · refine .inr (.inr ?_)
      rw [doStat_ok hf, doList_err' (.inr ⟨n, hf, h1, rfl⟩)]
      exact ⟨rfl, by show (t n).kind = 2; omega, rfl⟩

/-- A sum over the first k nodes. -/
def sumK (f : NodeV → Nat) (ns : List NodeV) (k : Nat) : Nat := ((ns.take k).map f).sum
theorem sumK_zero (f : NodeV → Nat) (ns : List NodeV) : sumK f ns 0 = 0 := by simp [sumK]
theorem sumK_succ (f : NodeV → Nat) {ns : List NodeV} {k : Nat} (h : k < ns.length) : sumK f ns (k + 1) = sumK f ns k + f ns[k] := by
  unfold sumK
  rw [List.take_succ_eq_append_getElem h, List.map_append, List.sum_append]
  simp
theorem sumK_all (f : NodeV → Nat) {ns : List NodeV} {k : Nat} (h : k = ns.length) : sumK f ns k = (ns.map f).sum := by
  unfold sumK
  rw [h, List.take_length]
theorem sumK_le (f : NodeV → Nat) (ns : List NodeV) (M : Nat) (h : ∀ x ∈ ns, f x ≤ M) : ∀ k, k ≤ ns.length → sumK f ns k ≤ k * M := fun k => by
  induction k with
  | zero => intro _; rw [sumK_zero]; omega
  | succ k ih =>
    intro hk
    rw [sumK_succ f (by omega), Nat.succ_mul]
    have := ih (by omega)
    have := h _ (List.getElem_mem (show k < ns.length by omega))
    omega
theorem sum_having (t : Tr) (f : Nat → Nat) (h0 : ∀ n, (t n).kind = 0 → f n = 0) : ∀ l : List Nat, ((l.filter fun n => decide ((t n).kind ≠ 0)).map f).sum = (l.map f).sum
  | [] => rfl
  | a :: l => by
    have ih := sum_having t f h0 l
    rw [List.filter_cons]
    by_cases h : (t a).kind = 0
    · rw [if_neg (by simp [h]), ih, List.map_cons, List.sum_cons, h0 a h, Nat.zero_add]
    · rw [if_pos (by simp [h]), List.map_cons, List.sum_cons, ih, List.map_cons, List.sum_cons]
theorem nodes_sum (t : Tr) (F : NodeV → Nat) (h0 : ∀ n, (t n).kind = 0 → F (nodeV t n) = 0) : ((nodesOf t).map F).sum = ((List.range 64).map fun n => F (nodeV t n)).sum := by
  unfold nodesOf having
  rw [List.map_map]
  exact sum_having t (F ∘ nodeV t) h0 _
theorem nodes_counted {t : Tr} (g : Good t) : ((nodesOf t).map (·.links)).sum = ((nodesOf t).map (·.entries.length)).sum + 1 := by
  rw [nodes_sum t (·.links) (fun n h => by show (t n).links = 0; rw [g.void n h]; rfl), nodes_sum t (·.entries.length) (fun n h => by show (t n).entries.length = 0; rw [g.void n h]; rfl)]
  exact g.counted
theorem nodes_data {t : Tr} (g : Good t) {x : NodeV} (hx : x ∈ nodesOf t) : x.data.length ≤ 512 := by
  unfold nodesOf at hx
  obtain ⟨n, _, rfl⟩ := List.mem_map.1 hx
  show (t n).data.length ≤ 512
  have h0 := g.kinds n
  rcases (show (t n).kind = 0 ∨ (t n).kind = 1 ∨ (t n).kind = 2 by omega) with h | h | h
  · rw [g.void n h]
    exact Nat.zero_le _
  · rw [(g.dir n h).2]
    exact Nat.zero_le _
  · exact (g.file n h).2
theorem nodes_links {w : World} {L : Lay} {N : Nat} {t : Tr} (h : TreeAt w L N t) (g : Good t) (hN : N ≤ 1000000) {x : NodeV} (hx : x ∈ nodesOf t) : x.links ≤ 64000000 := by
  unfold nodesOf at hx
  obtain ⟨n, hn, rfl⟩ := List.mem_map.1 hx
  exact (h.links_le g hN (having_mem.1 hn).2).1
theorem nodes_ents {w : World} {L : Lay} {N : Nat} {t : Tr} (h : TreeAt w L N t) (g : Good t) (hN : N ≤ 1000000) {x : NodeV} (hx : x ∈ nodesOf t) : x.entries.length ≤ 64000000 := by
  unfold nodesOf at hx
  obtain ⟨n, hn, rfl⟩ := List.mem_map.1 hx
  have := h.ents_le g n
  show (t n).entries.length ≤ _
  omega
end Go.Proofs.YtlpjbgplimlcaaaGreatDoor
