/-
  The program's Nodes.
-/
import Derived.Test.YtlpjbgplimlcaaaGreatDoorNlist
import Derived.Test.YtlpjbgplimlcaaaGreatDoorRead
import Derived.Test.YtlpjbgplimlcaaaGreatDoorAdd
import Derived.Test.YtlpjbgplimlcaaaGreatDoorNodes
import Derived.Deep.RegionHeld3
namespace Go.Proofs.YtlpjbgplimlcaaaGreatDoor
open Go.RowKit Go.Maps Go.Sort

/-- Which numbers have nodes; the nodes. -/
def having (t : Tr) : List Nat := (List.range 64).filter fun n => decide ((t n).kind ≠ 0)
def nodeV (t : Tr) (n : Nat) : NodeV := ⟨n, (t n).kind, (t n).links, (t n).data, (t n).entries⟩
def nodesOf (t : Tr) : List NodeV := (having t).map (nodeV t)
theorem having_mem {t : Tr} {n : Nat} : n ∈ having t ↔ n < 64 ∧ (t n).kind ≠ 0 := by
  unfold having
  rw [List.mem_filter, List.mem_range]
  simp
theorem having_le (t : Tr) : (having t).length ≤ 64 := by
  have := List.length_filter_le (fun n => decide ((t n).kind ≠ 0)) (List.range 64)
  rw [List.length_range] at this
  exact this
theorem sorted_numbers (t : Tr) {ss : List Int} (hp : (numbers t).Perm ss) : ss.mergeSort (fun x y => decide (x ≤ y)) = numbers t := by
  have h1 := mergeSort_of_perm_i hp
  rw [← h1]
  refine List.mergeSort_of_pairwise (List.pairwise_map.2 ((List.Pairwise.filter _ List.pairwise_lt_range).imp fun {a b} hab => ?_))
  exact decide_eq_true (by omega)

/-- A row of nodes that the call owns, by its cells. -/
def OwnC (w : World) (v : Value) (n : Nat) (cs : List Value) : Prop := w.ownsRow 0 47 5 v n cs
theorem OwnC.kept {S : Nat → Prop} {w w' : World} {v : Value} {n : Nat} {cs : List Value} (h : OwnC w v n cs) (hk : Keep S w w') (hs : ∀ k, v.ownBlock = some k → ¬ S k) : OwnC w' v n cs := by
  refine ⟨h.1, ?_⟩
  rcases h.2 with hn | ⟨g, cap, cur, rfl, hb, hgg, rest⟩
  · exact .inl hn
  · exact .inr ⟨g, cap, cur, rfl, hb, (hk.block g (Array.getElem?_eq_some_iff.1 hgg).1 (hs g rfl)).trans hgg, rest⟩
theorem OwnC.heap {w : World} {v : Value} {n k : Nat} {cs : List Value} (h : OwnC w v n cs) (hk : v.ownBlock = some k) : ∃ cur, w.heap[k]? = some (.cells cur 47 (0, 0)) := by
  rcases h.2 with ⟨rfl, _⟩ | ⟨g, cap, cur, rfl, _, hh, _⟩
  · simp [Value.ownBlock] at hk
  · have : g = k := by simpa [Value.ownBlock] using hk
    subst this
    exact ⟨_, hh⟩
theorem OwnE.heap {w : World} {v : Value} {k : Nat} {es : Row} (h : OwnE 62 w v es) (hk : v.ownBlock = some k) : ∃ cur, w.heap[k]? = some (.cells cur 62 (0, 0)) := by
  rcases h.2 with ⟨rfl, _⟩ | ⟨g, cap, cur, rfl, _, hh, _⟩
  · simp [Value.ownBlock] at hk
  · have : g = k := by simpa [Value.ownBlock] using hk
    subst this
    exact ⟨_, hh⟩

/-- A node's cells lie at the k-th place of a row's cells; its rows are owned, in new blocks. -/
def HasNode (w0 w : World) (cs : List Value) (k : Nat) (x : NodeV) : Prop :=
  ∃ A1 c1 A2 c2, (∀ j u, (nodeCells x A1 c1 A2 c2)[j]? = some u → cs[k * 5 + j]? = some u) ∧ Own 5 w (.slice A1 x.data.length c1) x.data ∧ OwnE 62 w (.slice A2 x.entries.length c2) x.entries ∧
    NB w0 (.slice A1 x.data.length c1) ∧ NB w0 (.slice A2 x.entries.length c2)

theorem node_info : ∃ i z, Tryz.prog.info? 47 = some i ∧ i.zero = some z ∧ i.size = 5 ∧ i.bytes = 72 ∧ z.cells.size = 5 :=
  ⟨(Tryz.prog.info? 47).get (by kernel_rfl), .agg #[.int .i64 0, .int .i64 0, .int .i64 0, .slice none 0 0, .slice none 0 0], by kernel_rfl, by kernel_rfl, by kernel_rfl, by kernel_rfl, by kernel_rfl⟩
theorem five_new (w : World) (v0 v1 v2 v3 v4 : Value) (E : TypeId) : ∀ j u, [v0, v1, v2, v3, v4][j]? = some u → (w.alloc (.cells #[v0, v1, v2, v3, v4] E)).cell? ((⟨w.heap.size, 0, none⟩ : Addr).add j) = some u := fun j u h => by
  rw [add_flat, World.cell?_alloc_mark, Nat.zero_add]
  simpa using h
theorem step_append_node {ops : Array Oper} {o : Oper} {a : Act} {w : World} {K : Act → World → Prop} {Q : Exit → Act → World → Prop} {Z : Prop} (hgd : o.guard = none) (s x : Operand)
    (ho : o.op = .call { callee := .builtin .append, args := #[s, x], argTypes := #[39, 39] }) (v : Value) (n : Nat) (cs : List Value) (hs : a.eval s = v) (w0 : World) (hown : OwnC w0 v n cs) (hk : KF w0 w) (hn : n ≤ 1000000)
    (ad : Addr) (c : Nat) (v0 v1 v2 v3 v4 : Value) (hx : a.eval x = .slice (some ad) 1 c) (hc : ∀ j u, [v0, v1, v2, v3, v4][j]? = some u → w.cell? (ad.add j) = some u)
    (h1 : v0.oneCell' = true ∧ v1.oneCell' = true ∧ v2.oneCell' = true ∧ v3.oneCell' = true ∧ v4.oneCell' = true)
    (h : ∀ A' n' c' w', OwnC w' (.slice A' n' c') (n + 1) (cs ++ [v0, v1, v2, v3, v4]) → w.grownBy w' v.ownBlock → ((Value.slice A' n' c').ownBlock = v.ownBlock ∨ (Value.slice A' n' c').ownBlock = some w.heap.size) → K (a.put o.dst (.slice A' n' c')) w') :
    if Region.wanted o (yielded ops a.tmps) = true then Oper.wp Tryz.prog o a w K Q else Z := by
  have hw : Region.wanted o (yielded ops a.tmps) = true := by simp [Region.wanted, hgd]
  rw [if_pos hw]
  obtain ⟨i, z, hi, hz, hsz, hby, hzs⟩ := node_info
  have hown' : OwnC w v n cs := hown.kept hk fun _ _ h => h
  obtain ⟨v', w', hrun, h2, h3, h4, h5⟩ := run_append_own_at (P := Tryz.prog) w 0 39 o.type 47 i z 5 72 Tryz.underlying39 hi hz hsz hby hzs (by omega) v n cs hown' ad 1 c [v0, v1, v2, v3, v4] rfl hc
    (fun u hu => by
      simp only [List.mem_cons, List.not_mem_nil, or_false] at hu
      rcases hu with rfl | rfl | rfl | rfl | rfl
      · exact h1.1
      · exact h1.2.1
      · exact h1.2.2.1
      · exact h1.2.2.2.1
      · exact h1.2.2.2.2) (by simp only [maxLen]; omega) (by omega) (Nat.zero_le _)
  unfold Oper.wp execOp
  simp only [ho, resolve, invoke, builtin, Sem.run_bind, Sem.run_pure, Result.andThen_ok, List.map_toArray, List.map_cons, List.map_nil, hs, hx, hrun]
  have hsh : ∃ A' n' c', v' = .slice A' n' c' := by
    rcases h2.2 with ⟨rfl, _⟩ | ⟨g, cap, cur, rfl, _⟩
    · exact ⟨_, _, _, rfl⟩
    · exact ⟨_, _, _, rfl⟩
  obtain ⟨A', n', c', rfl⟩ := hsh
  exact h A' n' c' w' h2 h3 h5

/-- The nodes ns, from the address A on, in blocks from lo on. -/
def NodesFrom (w : World) (lo : Nat) (A : Option Addr) (ns : List NodeV) : Prop :=
  ∀ j x, ns[j]? = some x → ∃ b o A1 c1 A2 c2, A = some ⟨b, o, none⟩ ∧ lo ≤ b ∧ b < w.heap.size ∧
    (∀ i u, (nodeCells x A1 c1 A2 c2)[i]? = some u → w.cell? ⟨b, o + j * 5 + i, none⟩ = some u) ∧ Rd w w.heap.size A1 x.data ∧ Ents w w.heap.size A2 x.entries ∧ (∀ a : Addr, A1 = some a → lo ≤ a.block) ∧ (∀ a : Addr, A2 = some a → lo ≤ a.block)
theorem NodesFrom.at_ {w : World} {lo : Nat} {A : Option Addr} {ns : List NodeV} (h : NodesFrom w lo A ns) : NodesAt w w.heap.size A ns := fun j x hj => by
  obtain ⟨b, o, A1, c1, A2, c2, hA, hlo, hb, hc, hr, he, _, _⟩ := h j x hj
  have q0 := hc 0 _ rfl
  have q1 := hc 1 _ rfl
  have q2 := hc 2 _ rfl
  have q3 := hc 3 _ rfl
  have q4 := hc 4 _ rfl
  exact ⟨b, o, A1, c1, A2, c2, hA, hb, q0, q1, q2, q3, q4, hr, he⟩
theorem NodesFrom.keep {S : Nat → Prop} {w w' : World} {lo : Nat} {A : Option Addr} {ns : List NodeV} (h : NodesFrom w lo A ns) (k : Keep S w w') (hS : ∀ i, S i → i < lo) : NodesFrom w' lo A ns := fun j x hj => by
  obtain ⟨b, o, A1, c1, A2, c2, hA, hlo, hb, hc, hr, he, h1, h2⟩ := h j x hj
  have no : ∀ i, lo ≤ i → ¬ S i := fun i hi hs => by have := hS i hs; omega
  refine ⟨b, o, A1, c1, A2, c2, hA, hlo, Nat.lt_of_lt_of_le hb k.size, fun i u hi => (Keep.cell k hb (no b hlo)).trans (hc i u hi), (hr.keepS (Nat.le_refl _) k fun a ha => no _ (h1 a ha)).more k.size, (he.keep (Nat.le_refl _) k fun a ha => no _ (h2 a ha)).more k.size, h1, h2⟩

theorem TreeAt.ints_nodes {w : World} {L : Lay} {N : Nat} {t : Tr} (h : TreeAt w L N t) (g : Good t) :
    ∃ D : VD, w.ownsMap Tryz.prog 3 anyElem L.mb N D ∧ (numbers t).Perm (intKeys D) ∧ Maps.size D = (numbers t).length :=
  h.map.ints TreeAt.int_law Tryz.underlying3 (numbers_nodup t) (fun x hx => by
    obtain ⟨h1, h2, _⟩ := mem_numbers.1 hx
    exact WalkArith.wf_i64 (by omega)) (fun x _ => by
    rw [mem_numbers]
    simp only [nodeF]
    by_cases hx : 0 ≤ x ∧ (t x.toNat).kind ≠ 0
    · rw [if_pos hx]
      have := g.lt hx.2
      simp [hx.1, hx.2]
      omega
    · rw [if_neg hx]
      simp
      intro h1 _
      exact Classical.not_not.1 fun h2 => hx ⟨h1, h2⟩)
/-- The numbers of all nodes, sorted, in a new row. -/
theorem TreeAt.sorted_nodes {w : World} {L : Lay} {N : Nat} {t : Tr} (h : TreeAt w L N t) (g : Good t) :
    Calls Tryz.prog 28 #[.func (.func 54) #[] #[.pointer (some ⟨w.heap.size, 0, none⟩)]] (w.alloc (.cells #[.map (some L.mb)] 50)) fun e w' =>
      ∃ A c, e = .returned (.slice A (having t).length c) ∧ (∀ (j n : Nat), (having t)[j]? = some n → ∃ b, A = some ⟨b, 0, none⟩ ∧ b < w'.heap.size ∧ w'.cell? ⟨b, j, none⟩ = some (.int .i64 (n : Int))) ∧ KF w w' := by
  obtain ⟨D, hD, hp, hs⟩ := h.ints_nodes g
  have hlen : (numbers t).length = (having t).length := by
    unfold numbers having
    rw [List.length_map]
  refine (intSorted_any L.mb N D w hD (by rw [hs, hlen]; have := having_le t; omega)).mono ?_
  rintro e w' ⟨v, ss, rfl, hS, hrow, hnew, k⟩
  have hsort := sorted_numbers t (hp.trans hS.symm)
  have hl : ss.length = (having t).length := by rw [← hlen]; exact (hp.trans hS.symm).length_eq.symm
  rw [hsort] at hrow
  rw [hl] at hrow
  have hv : ∃ A c, v = .slice A (having t).length c ∧ ∀ g, v.ownBlock = some g → A = some ⟨g, 0, none⟩ := by
    rcases hrow.2 with ⟨rfl, h0⟩ | ⟨g, cap, cur, rfl, _⟩
    · exact ⟨none, 0, by rw [h0], fun g hg => by simp [Value.ownBlock] at hg⟩
    · exact ⟨_, cap, rfl, fun g' hg => by simp [Value.ownBlock] at hg; rw [hg]⟩
  obtain ⟨A, c, rfl, hA⟩ := hv
  refine ⟨A, c, rfl, fun j n hj => ?_, k⟩
  have hlt : j < (having t).length := by
    rcases Nat.lt_or_ge j (having t).length with h | h
    · exact h
    · rw [List.getElem?_eq_none h] at hj; cases hj
  rcases hrow.2 with ⟨_, h0⟩ | ⟨g, cap, cur, hv, _, hh, _⟩
  · omega
  · have hb : (Value.slice A (having t).length c).ownBlock = some g := by rw [hv]; rfl
    obtain rfl := hA g hb
    refine ⟨g, rfl, (Array.getElem?_eq_some_iff.1 hh).1, ?_⟩
    have := World.ownsRow.cells (g := g) hrow hb j (.int .i64 (n : Int)) (by
      rw [List.getElem?_map]
      unfold numbers
      rw [List.getElem?_map]
      show ((having t)[j]?.map _).map _ = _
      rw [hj]
      rfl)
    rw [add_flat, Nat.zero_add] at this
    exact this
end Go.Proofs.YtlpjbgplimlcaaaGreatDoor
