/-
  Rows of things of so many cells each, whatever they are: read, owned, appended to. It speaks of no program.
  What a law's row asks beside its walk, over any program: a slice of bytes that came in, and the end: the law answered true and nothing that was there has turned.
-/
import Derived.Test.YtlkiaghpdjbfeaaGreatDoorPk1
import Derived.Test.YtlkiaghpdjbfeaaGreatDoorPk0
import Derived.ProofKit
import Derived.OpenShut
import Derived.Deep.Slices
import Derived.Deep.Fields
namespace Go.Proofs.YtlkiaghpdjbfeaaGreatDoor
open Go.RowKit

section
variable {α : Type} {K : Nat} {enc : α → List Value}
theorem flat_length (hK : ∀ x, (enc x).length = K) : ∀ xs : List α, (xs.flatMap enc).length = xs.length * K
  | [] => by simp
  | x :: xs => by rw [List.flatMap_cons, List.length_append, hK, flat_length hK xs, List.length_cons, Nat.succ_mul]; omega
theorem flat_get (hK : ∀ x, (enc x).length = K) {i : Nat} (hi : i < K) : ∀ {xs : List α} {j : Nat} {x : α}, xs[j]? = some x → (xs.flatMap enc)[j * K + i]? = (enc x)[i]?
  | y :: xs, 0, x, h => by
    injection h with h
    subst h
    rw [List.flatMap_cons, Nat.zero_mul, Nat.zero_add, List.getElem?_append_left (by rw [hK]; exact hi)]
  | y :: xs, j + 1, x, h => by
    have ih := flat_get hK hi (xs := xs) (j := j) (x := x) (by simpa using h)
    rw [List.flatMap_cons, List.getElem?_append_right (by rw [hK, Nat.succ_mul]; omega), hK, ← ih]
    congr 1
    rw [Nat.succ_mul]
    omega
/-- From the address A on, in blocks below B, the cells hold the things xs. -/
def RdC (K : Nat) (enc : α → List Value) (w : World) (B : Nat) (A : Option Addr) (xs : List α) : Prop :=
  ∀ j x, xs[j]? = some x → ∃ b o, A = some ⟨b, o, none⟩ ∧ b < B ∧ ∀ i u, (enc x)[i]? = some u → w.cell? ⟨b, o + j * K + i, none⟩ = some u
variable {w w' : World} {B B' : Nat} {A : Option Addr} {xs : List α}
theorem RdC.nil : RdC K enc w B A [] := fun j x h => by simp at h
theorem RdC.keep {S : Nat → Prop} (h : RdC K enc w B A xs) (hB : B ≤ w.heap.size) (k : Keep S w w') (hS : ∀ a : Addr, A = some a → ¬ S a.block) : RdC K enc w' B A xs := fun j x hj => by
  obtain ⟨b, o, rfl, hb, h1⟩ := h j x hj
  have hn : ¬ S b := hS _ rfl
  exact ⟨b, o, rfl, hb, fun i u hu => (k.cell (p := ⟨b, o + j * K + i, none⟩) (by show b < _; omega) hn).trans (h1 i u hu)⟩
theorem RdC.more (h : RdC K enc w B A xs) (hB : B ≤ B') : RdC K enc w B' A xs := fun j x hj => by
  obtain ⟨b, o, rfl, hb, h1⟩ := h j x hj
  exact ⟨b, o, rfl, by omega, h1⟩
theorem RdC.kept (h : RdC K enc w w.heap.size A xs) (k : KF w w') : RdC K enc w' w'.heap.size A xs := (h.keep (Nat.le_refl _) k (fun _ _ h => h)).more k.size
/-- What the laws on append ask of a type of rows. -/
structure Ct (P : Program) (T E : TypeId) (K by_ : Nat) : Prop where
  under : P.underlying T = some (.slice E)
  info : ∃ i z, P.info? E = some i ∧ i.zero = some z ∧ i.size = K ∧ i.bytes = by_ ∧ z.cells.size = K
/-- The value v is a row of the call's own that holds the things xs. -/
def OwnC (E : TypeId) (K : Nat) (enc : α → List Value) (w : World) (v : Value) (xs : List α) : Prop := w.ownsRow 0 E K v xs.length (xs.flatMap enc)
variable {P : Program} {E : TypeId} {v : Value}
theorem OwnC.shape (hK : ∀ x, (enc x).length = K) (h : OwnC E K enc w v xs) : ∃ A c, v = .slice A xs.length c ∧ xs.length ≤ c ∧ c ≤ maxLen ∧ RdC K enc w w.heap.size A xs ∧ (∀ a : Addr, A = some a → v.ownBlock = some a.block) := by
  rcases h.2 with ⟨rfl, h0⟩ | ⟨g, cap, cur, rfl, _, hg, hnc, hcm, _⟩
  · have : xs = [] := List.eq_nil_of_length_eq_zero h0
    subst this
    exact ⟨none, 0, rfl, Nat.le_refl _, Nat.zero_le _, RdC.nil, fun a ha => by cases ha⟩
  · refine ⟨some ⟨g, 0, none⟩, cap, rfl, hnc, hcm, fun j x hj => ?_, fun a ha => ?_⟩
    · have hlt := (Array.getElem?_eq_some_iff.1 hg).1
      refine ⟨g, 0, rfl, hlt, fun i u hu => ?_⟩
      have hi : i < K := by
        rcases Nat.lt_or_ge i K with h' | h'
        · exact h'
        · rw [List.getElem?_eq_none (by rw [hK]; exact h')] at hu; cases hu
      have h1 := World.ownsRow.cells (g := g) h rfl (j * K + i) u (by rw [flat_get hK hi hj]; exact hu)
      rw [add_flat] at h1
      rw [Nat.add_assoc]
      exact h1
    · injection ha with ha
      subst ha
      rfl
theorem OwnC.alloc (h : OwnC E K enc w v xs) (o : Obj) : OwnC E K enc (w.alloc o) v xs := World.ownsRow.alloc h o
theorem OwnC.empty (E : TypeId) (w : World) : OwnC E K enc (w.alloc (.cells #[] E)) (.slice (some ⟨w.heap.size, 0, none⟩) 0 0) ([] : List α) :=
  ⟨by simp, .inr ⟨w.heap.size, 0, #[], rfl, Nat.zero_le _, heap_alloc_new w _, Nat.le_refl _, Nat.zero_le _, by simp, by simp⟩⟩
/-- One thing, laid by a literal. -/
theorem OwnC.one (hK : ∀ x, (enc x).length = K) (E : TypeId) (w : World) (x : α) : OwnC E K enc (w.alloc (.cells (enc x).toArray E)) (.slice (some ⟨w.heap.size, 0, none⟩) 1 1) [x] :=
  ⟨by simp [hK], .inr ⟨w.heap.size, 1, (enc x).toArray, rfl, Nat.zero_le _, heap_alloc_new w _, Nat.le_refl _, by simp [maxLen], by simp [hK], by simp only [List.length_cons, List.length_nil, Nat.zero_add, Nat.one_mul, List.flatMap_cons, List.flatMap_nil, List.append_nil]; exact List.take_of_length_le (by simp [hK])⟩⟩
theorem OwnC.kept {S : Nat → Prop} (h : OwnC E K enc w v xs) (hk : Keep S w w') (hs : ∀ k, v.ownBlock = some k → ¬ S k) : OwnC E K enc w' v xs := by
  refine ⟨h.1, ?_⟩
  rcases h.2 with h0 | ⟨g, cap, cur, hv, hb, hg, hnc, hcm, hcs, ht⟩
  · exact .inl h0
  · refine .inr ⟨g, cap, cur, hv, hb, ?_, hnc, hcm, hcs, ht⟩
    rw [hk.block g (Array.getElem?_eq_some_iff.1 hg).1 (hs g (by rw [hv]; rfl))]
    exact hg
theorem OwnC.cells_ (h : OwnC E K enc w v xs) {i : Nat} (hi : v.ownBlock = some i) : ∃ cs, w.heap[i]? = some (.cells cs E (0, 0)) := by
  rcases h.2 with ⟨rfl, _⟩ | ⟨g, cap, cur, rfl, _, hg, _⟩
  · simp [Value.ownBlock] at hi
  · simp [Value.ownBlock] at hi
    subst hi
    exact ⟨_, hg⟩
theorem OwnC.ne_ {t : TypeId} {cs : Array Value} {g : Nat} (h : OwnC E K enc w v xs) (hg : w.heap[g]? = some (.cells cs t (0, 0))) (hne : E ≠ t) : v.ownBlock ≠ some g := fun e => by
  obtain ⟨cs', h'⟩ := h.cells_ e
  rw [h'] at hg
  injection hg with hg
  injection hg with _ ht
  exact hne ht
theorem RdC.lit (hK : ∀ x, (enc x).length = K) (w : World) (E : TypeId) (x : α) : RdC K enc (w.alloc (.cells (enc x).toArray E)) (w.heap.size + 1) (some ⟨w.heap.size, 0, none⟩) [x] := by
  obtain ⟨A, c, e, _, _, h, _⟩ := (OwnC.one hK E w x).shape hK
  injection e with e _ _
  rw [← e] at h
  simpa using h
end
section
variable {P : Program} (w : World) {α : Type} {K : Nat} {enc : α → List Value}
theorem run_append_c {T E : TypeId} {by_ : Nat} (U : Ct P T E K by_) (hK : ∀ x, (enc x).length = K) (h1 : ∀ x, ∀ u ∈ enc x, u.oneCell' = true) (hK0 : 0 < K) (ty : TypeId) (v : Value) (es : List α) (hown : OwnC E K enc w v es) (B : Nat) (A : Option Addr) (c : Nat) (fs : List α) (n : Nat) (hn : n = fs.length) (hr : RdC K enc w B A fs)
    (hb : (es.length + fs.length) * by_ ≤ 140737488355328) (hb2 : es.length + fs.length ≤ 1000000000) :
    ∃ v' w', (Builtin.append_ #[T, T] ty #[v, .slice A n c]).run P w = .ok v' w' ∧ OwnC E K enc w' v' (es ++ fs) ∧ w.grownBy w' v.ownBlock ∧ (v'.ownBlock = v.ownBlock ∨ v'.ownBlock = some w.heap.size) := by
  subst hn
  obtain ⟨i, z, hi, hz, hs, hby, hzs⟩ := U.info
  rcases hm : A with _ | ad
  · have : fs = [] := by
      rcases fs with _ | ⟨b, m⟩
      · rfl
      · obtain ⟨b, o, h, _⟩ := hr 0 b rfl
        rw [hm] at h
        cases h
    subst this
    refine ⟨v, w, ?_, by simpa using hown, World.grownBy.refl w _, .inl rfl⟩
    rcases hown.2 with ⟨rfl, h0⟩ | ⟨g, cap, cur, rfl, _, _, hnc, _⟩
    · simp [Builtin.append_, run_underlying U.under, sizeOf, typeInfo, hi, Builtin.lenOf, Builtin.firstCells]
    · simp [Builtin.append_, run_underlying U.under, sizeOf, typeInfo, hi, Builtin.lenOf, Builtin.firstCells, hnc, storeCells]
  · subst hm
    have hcells : ∀ j u, (fs.flatMap enc)[j]? = some u → w.cell? (ad.add j) = some u := by
      intro j u hu
      have hlt : j < fs.length * K := by
        rcases Nat.lt_or_ge j (fs.length * K) with h | h
        · exact h
        · rw [List.getElem?_eq_none (by rw [flat_length hK]; exact h)] at hu; cases hu
      have hq : j / K < fs.length := Nat.div_lt_of_lt_mul (by rw [Nat.mul_comm]; exact hlt)
      have hmod : j % K < K := Nat.mod_lt _ hK0
      have hj : j / K * K + j % K = j := by rw [Nat.mul_comm]; exact Nat.div_add_mod j K
      obtain ⟨b, o, e, _, hc⟩ := hr (j / K) fs[j / K] (List.getElem?_eq_getElem hq)
      injection e with e
      subst e
      have h2 := flat_get hK hmod (List.getElem?_eq_getElem hq)
      rw [hj, hu] at h2
      have h3 := hc (j % K) u h2.symm
      rw [add_flat]
      rw [Nat.add_assoc, hj] at h3
      exact h3
    obtain ⟨v', w', hrun, h2, h3, _, h5⟩ := run_append_own_at (P := P) w 0 T ty E i z K by_ U.under hi hz hs hby hzs hK0 v es.length (es.flatMap enc) hown ad fs.length c (fs.flatMap enc) (flat_length hK fs) hcells
      (fun u hu => by obtain ⟨x, _, hx⟩ := List.mem_flatMap.1 hu; exact h1 x u hx) (by simp only [maxLen]; omega) (by omega) (Nat.zero_le _)
    exact ⟨v', w', hrun, by unfold OwnC; rw [List.length_append, List.flatMap_append]; exact h2, h3, h5⟩
theorem wp_append_c {o : Oper} {a : Act} {Kp : Act → World → Prop} {Q : Exit → Act → World → Prop} (s x : Operand) (T : TypeId)
    (ho : o.op = .call { callee := .builtin .append, args := #[s, x], argTypes := #[T, T] }) {E : TypeId} {by_ : Nat} (U : Ct P T E K by_) (hK : ∀ x, (enc x).length = K) (h1 : ∀ x, ∀ u ∈ enc x, u.oneCell' = true) (hK0 : 0 < K) (v : Value) (es : List α) (hs : a.eval s = v) (hown : OwnC E K enc w v es) (B : Nat) (A : Option Addr) (n c : Nat) (fs : List α)
    (hx : a.eval x = .slice A n c) (hn : n = fs.length) (hr : RdC K enc w B A fs) (hb : (es.length + fs.length) * by_ ≤ 140737488355328) (hb2 : es.length + fs.length ≤ 1000000000)
    (h : ∀ A' n' c' w', OwnC E K enc w' (.slice A' n' c') (es ++ fs) → Hid (n' = (es ++ fs).length) → n' ≤ c' → c' ≤ maxLen → w.grownBy w' v.ownBlock → ((Value.slice A' n' c').ownBlock = v.ownBlock ∨ (Value.slice A' n' c').ownBlock = some w.heap.size) → Kp (a.put o.dst (.slice A' n' c')) w') : o.wp P a w Kp Q := by
  obtain ⟨v', w', hrun, h2, h3, h4⟩ := run_append_c (P := P) w U hK h1 hK0 o.type v es hown B A c fs n hn hr hb hb2
  unfold Oper.wp execOp
  simp only [ho, resolve, invoke, builtin, Sem.run_bind, Sem.run_pure, Result.andThen_ok, List.map_toArray, List.map_cons, List.map_nil, hs, hx, hrun]
  obtain ⟨A', c', rfl, hle, hm, _, _⟩ := h2.shape hK
  exact h _ _ _ w' h2 rfl hle hm h3 h4
theorem wpList_append_c {ops : Array Oper} {rest : List Oper} {o : Oper} {a : Act} {Q : Exit → Act → World → Prop} (hgd : o.guard = none) (s x : Operand) (T : TypeId)
    (ho : o.op = .call { callee := .builtin .append, args := #[s, x], argTypes := #[T, T] }) {E : TypeId} {by_ : Nat} (U : Ct P T E K by_) (hK : ∀ x, (enc x).length = K) (h1 : ∀ x, ∀ u ∈ enc x, u.oneCell' = true) (hK0 : 0 < K) (v : Value) (es : List α) (hs : a.eval s = v) (hown : OwnC E K enc w v es) (B : Nat) (A : Option Addr) (n c : Nat) (fs : List α)
    (hx : a.eval x = .slice A n c) (hn : n = fs.length) (hr : RdC K enc w B A fs) (hb : (es.length + fs.length) * by_ ≤ 140737488355328) (hb2 : es.length + fs.length ≤ 1000000000)
    (h : ∀ A' n' c' w', OwnC E K enc w' (.slice A' n' c') (es ++ fs) → Hid (n' = (es ++ fs).length) → n' ≤ c' → c' ≤ maxLen → w.grownBy w' v.ownBlock → ((Value.slice A' n' c').ownBlock = v.ownBlock ∨ (Value.slice A' n' c').ownBlock = some w.heap.size) → wpList P ops Q rest (a.put o.dst (.slice A' n' c')) w') : wpList P ops Q (o :: rest) a w :=
  wpList_plain hgd fun _ hKp => wp_append_c w s x T ho U hK h1 hK0 v es hs hown B A n c fs hx hn hr hb hb2 fun A' n' c' w' h2 h3 h4 h5 h6 h7 => hKp _ _ (h A' n' c' w' h2 h3 h4 h5 h6 h7)
end
end Go.Proofs.YtlkiaghpdjbfeaaGreatDoor

namespace Go.Proofs.YtlkiaghpdjbfeaaGreatDoor
open Go.RowKit Go.ChangeShapes Go.WideShapes Go.ChangeAt

section
variable {H : Type} {enc : TypeId × Value → H} {P : Program} {W W' : World}

theorem open_bytes {base b0 : Nat} {r : Reach} {spare : Nat → Bool} {held : Bool} {t e : TypeId} {v : Value} {d : DataW H} {p : List MemPlace} (ht : P.underlying t = some (.slice e)) (he : P.underlying e = some (.int .u8)) (hc : P.cellsOf e = 1)
    (hv : Value.okWide P W r b0 t v) (h : DataW.Trod enc P W base spare held t v d p) : ∃ (A : Option Addr) (l : List UInt8) (c : Nat), v = .slice A l.length c ∧ l.length ≤ c ∧ c ≤ maxLen ∧ Rd W W.heap.size A l := by
  obtain ⟨A, len, cap, rfl⟩ := okWide_slice ht hv
  obtain ⟨fuel, hf⟩ := h
  rcases open_ints ht he hc hf with ⟨hcs, _⟩ | ⟨a, len', cap', zs, hcs, _, hl, hm, hz, _, hcell, hwz⟩
  · simp only [Value.cells, List.cons.injEq, Value.slice.injEq, and_true] at hcs
    obtain ⟨rfl, rfl, rfl⟩ := hcs
    exact ⟨none, [], 0, rfl, Nat.le_refl _, Nat.zero_le _, Rd.nil⟩
  · simp only [Value.cells, List.cons.injEq, Value.slice.injEq, and_true] at hcs
    obtain ⟨rfl, rfl, rfl⟩ := hcs
    have hle : len ≤ zs.length := by rw [hz]; split <;> omega
    have hb : ∀ n ∈ zs, 0 ≤ n ∧ n < 256 := fun n hn => by
      have h := hwz n hn
      have h1 : IntKind.u8.min = 0 := rfl
      have h2 : IntKind.u8.max = 255 := rfl
      simp only [Lit.wf, Bool.and_eq_true, decide_eq_true_eq, h1, h2] at h
      omega
    have hlen : ((zs.take len).map fun n => UInt8.ofNat n.toNat).length = len := by simp; omega
    refine ⟨some a, (zs.take len).map fun n => UInt8.ofNat n.toNat, cap, by rw [hlen], by omega, hm, fun j b hj => ?_⟩
    have hjl : j < len := by
      rcases Nat.lt_or_ge j len with h' | h'
      · exact h'
      · rw [List.getElem?_eq_none (by omega)] at hj; cases hj
    have hc := hcell j (by omega)
    have hlt := World.block_lt_of_cell? W _ hc
    rw [block_add] at hlt
    refine ⟨a, rfl, hlt, ?_⟩
    rw [hc]
    have hjz : j < zs.length := by omega
    simp only [List.getElem?_map, List.getElem?_take, hjl, if_true, List.getElem?_eq_getElem hjz, Option.map_some, Option.some.injEq] at hj
    have hbj := hb _ (List.getElem_mem hjz)
    rw [← hj]
    simp only [List.getD, List.getElem?_eq_getElem hjz, Option.getD_some]
    have : (UInt8.ofNat zs[j].toNat).toNat = zs[j].toNat := by
      rw [UInt8.toNat_ofNat']
      exact Nat.mod_eq_of_lt (by omega)
    rw [this]
    congr 2
    omega

/-- A slice that came in, of whatever elements: each element's cells, and that they read as the element's type. -/
theorem open_cells {base b0 : Nat} {r : Reach} {spare : Nat → Bool} {held : Bool} {t e : TypeId} {v : Value} {d : DataW H} {p : List MemPlace} (ht : P.underlying t = some (.slice e)) (hpos : 0 < P.cellsOf e)
    (hv : Value.okWide P W r b0 t v) (h : DataW.Trod enc P W base spare held t v d p) : ∃ (A : Option Addr) (n c : Nat), v = .slice A n c ∧ n ≤ c ∧ c ≤ maxLen ∧
      ∀ i, i < n → ∃ (b o : Nat) (cs : List Value) (fuel : Nat) (y : DataW H × List MemPlace), A = some ⟨b, o, none⟩ ∧ b < W.heap.size ∧ cs.length = P.cellsOf e ∧
        (∀ j u, cs[j]? = some u → W.cell? ⟨b, o + i * P.cellsOf e + j, none⟩ = some u) ∧ DataW.trod enc P W base spare held fuel e cs = some y := by
  obtain ⟨A, len, cap, rfl⟩ := okWide_slice ht hv
  obtain ⟨fuel, hf⟩ := h
  rcases Deep.open_slice ht hf with ⟨hcs, _⟩ | ⟨a, len', cap', m, n, D, Pl, hcs, _, hl, hm, hmm, _, hi⟩
  · simp only [Value.cells, List.cons.injEq, Value.slice.injEq, and_true] at hcs
    obtain ⟨rfl, rfl, rfl⟩ := hcs
    exact ⟨none, 0, 0, rfl, Nat.le_refl _, Nat.zero_le _, fun i hi => absurd hi (by omega)⟩
  · simp only [Value.cells, List.cons.injEq, Value.slice.injEq, and_true] at hcs
    obtain ⟨rfl, rfl, rfl⟩ := hcs
    refine ⟨some a, len, cap, rfl, hl, hm, fun i hil => ?_⟩
    have hlm : len ≤ m := by rw [hmm]; split <;> omega
    obtain ⟨cs, hc, hy⟩ := hi i (by omega)
    obtain ⟨_, hcl, hat⟩ := World.cells?_some hc
    have h0 := hat 0 hpos
    rw [List.getElem?_eq_getElem (by omega), Deep.add_add] at h0
    obtain ⟨b, o, spot⟩ := a
    have hspot : spot = none := by
      obtain ⟨cs0, hc0, _⟩ := hi 0 (by omega)
      obtain ⟨_, hcl0, hat0⟩ := World.cells?_some hc0
      have h00 := hat0 0 hpos
      rw [List.getElem?_eq_getElem (by omega)] at h00
      simpa [Addr.add] using World.cell?_spot h00
    subst hspot
    have hadd : ∀ k, (⟨b, o, none⟩ : Addr).add k = ⟨b, o + k, none⟩ := fun k => by unfold Addr.add; split <;> simp_all
    have hlt := World.block_lt_of_cell? W _ h0
    rw [hadd] at hlt
    refine ⟨b, o, cs, n, _, rfl, hlt, hcl, fun j u hu => ?_, hy⟩
    have hj : j < P.cellsOf e := by
      rcases Nat.lt_or_ge j cs.length with h' | h'
      · omega
      · rw [List.getElem?_eq_none h'] at hu; cases hu
    have h1 := hat j hj
    rw [Deep.add_add, hadd, hu] at h1
    rw [Nat.add_assoc]
    exact h1
theorem byte_of_wf {n : Int} (h : (Lit.int .u8 n).wf = true) : ∃ b : UInt8, n = (b.toNat : Int) := by
  have h1 : IntKind.u8.min = 0 := rfl
  have h2 : IntKind.u8.max = 255 := rfl
  simp only [Lit.wf, Bool.and_eq_true, decide_eq_true_eq, h1, h2] at h
  refine ⟨UInt8.ofNat n.toNat, ?_⟩
  rw [UInt8.toNat_ofNat']
  omega

/-- The arguments read as they did. -/
theorem trodAll_stays (hl : laidOutB P = true) (hb : Below W.heap.size W W') : ∀ (ts : List TypeId) (vs : List Value) (ds : List (DataW H)) (ps : List MemPlace), (∀ t ∈ ts, P.readableRec t = true ∧ t < P.types.size) →
    DataW.TrodAll enc P W 0 (fun _ => true) true ts vs ds ps → (∀ x ∈ ps, x.block < W.heap.size) → DataW.TrodAll enc P W' 0 (fun b => decide (b < W.heap.size)) true ts vs ds ps
  | [], [], [], ps, _, h, _ => h
  | t :: ts, v :: vs, d :: ds, ps, ht, h, hlt => by
    obtain ⟨p, q, h0, h1, rfl⟩ := h
    exact ⟨p, q, Below.trod hl (ht t (by simp)).1 (ht t (by simp)).2 h0 hb (fun x hx => hlt x (by simp [hx])), trodAll_stays hl hb ts vs ds q (fun t' h' => ht t' (by simp [h'])) h1 (fun x hx => hlt x (by simp [hx])), rfl⟩
  | [], [], _ :: _, _, _, h, _ => h.elim
  | [], _ :: _, _, _, _, h, _ => h.elim
  | _ :: _, [], _, _, _, h, _ => h.elim
  | _ :: _, _ :: _, [], _, _, h, _ => h.elim

/-- THE END OF EVERY LAW: it answered true, and of what was there nothing has turned. -/
theorem law_post {f : Func} {s : ChangeSpec} {args : Array Value} {ds gs : List (DataW H)} {before : List MemPlace} {tb : TypeId} (hl : laidOutB P = true) (hts : ∀ t ∈ f.params.toList, P.readableRec t = true ∧ t < P.types.size)
    (hr : f.resultTypes = #[tb]) (htb : P.underlying tb = some .bool) (hvars : s.vars = []) (hfn : s.fn H (ds ++ gs) = { results := [.lit (.bool true)], args := ds })
    (hW : DataW.Whole enc P f.params.toList s.vars false W args.toList ds gs before) (hb : Below W.heap.size W W') : s.post enc P f false true false false W args (.bool true) W' := by
  have hlt := fun x hx => hW.lt x hx
  have hW' := hW
  obtain ⟨p, q, hA, hV, rfl, _, _⟩ := hW
  rw [hvars] at hV
  obtain ⟨rfl, rfl⟩ := trodVars_none hV
  refine ⟨ds, [], _, [], p, [], hW', ?_, ?_, ?_, hb.frame _, fun h => by cases h⟩
  · rw [hfn, hr]
    exact trodAll_cons_mk (shut_bool htb _) trodAll_mk0
  · rw [hfn]
    exact trodAll_stays hl hb _ _ _ _ hts hA (fun x hx => hlt x (by simp [hx]))
  · rw [hfn, hvars]
    rfl
end
end Go.Proofs.YtlkiaghpdjbfeaaGreatDoor
