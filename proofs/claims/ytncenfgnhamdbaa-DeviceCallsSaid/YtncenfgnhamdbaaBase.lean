/-
  Words for memory that the walks of this seat share: a row of bytes that is read, a row of bytes that the call owns, what is kept over a step. It speaks of no program.
-/
import Derived.WalkKit
import Derived.WalkSpells
import Derived.WalkLawsBesides
import Derived.Outline
import Derived.Laws.BitsAllLaws
import Derived.Lib.Hide
import Derived.Maps.AppendAt
import Derived.Deep.AppendLies
import Derived.Deep.Draws
import Derived.Deep.QuietTactic
import Derived.RegionTactic
import Derived.OneCell
import Derived.Lib.SlBytesConst
namespace Go.Proofs.Ytncenfgnhamdbaa
open Go.RowKit

/-- Bytes as the values that cells hold. -/
def u8s (l : List UInt8) : List Value := l.map fun b => .int .u8 (b.toNat : Int)
theorem u8s_length (l : List UInt8) : (u8s l).length = l.length := by simp [u8s]
theorem u8s_append (l m : List UInt8) : u8s (l ++ m) = u8s l ++ u8s m := by simp [u8s]
theorem u8s_one (l : List UInt8) : ∀ u ∈ u8s l, u.oneCell' = true := by
  intro u hu
  simp only [u8s, List.mem_map] at hu
  obtain ⟨b, _, rfl⟩ := hu
  rfl

/-- The cells from 'A' on hold the bytes l, in blocks below B. -/
def Rd (w : World) (B : Nat) (A : Option Addr) (l : List UInt8) : Prop :=
  ∀ j b, l[j]? = some b → ∃ a : Addr, A = some a ∧ a.block < B ∧ w.cell? (a.add j) = some (.int .u8 b.toNat)

/-- The value v is a row of the call's own that holds the bytes l. -/
def Own (E : TypeId) (w : World) (v : Value) (l : List UInt8) : Prop := w.ownsRow 0 E 1 v l.length (u8s l)

/-- All blocks that were there, but those of S, are as they were. -/
structure Keep (S : Nat → Prop) (a w : World) : Prop where
  os : w.os = a.os
  tape : w.tape = a.tape
  output : w.output = a.output
  size : a.heap.size ≤ w.heap.size
  block : ∀ k, k < a.heap.size → ¬ S k → w.heap[k]? = a.heap[k]?

theorem block_add (a : Addr) (n : Nat) : (a.add n).block = a.block := by unfold Addr.add; split <;> rfl

section
variable {S S' : Nat → Prop} {a b c w : World}
theorem Keep.refl (S : Nat → Prop) (a : World) : Keep S a a := ⟨rfl, rfl, rfl, Nat.le_refl _, fun _ _ _ => rfl⟩
theorem Keep.trans (h : Keep S a b) (k : Keep S' b c) (hs : ∀ i, i < a.heap.size → S' i → S i) : Keep S a c :=
  ⟨k.os.trans h.os, k.tape.trans h.tape, k.output.trans h.output, Nat.le_trans h.size k.size,
    fun i hi hn => (k.block i (Nat.lt_of_lt_of_le hi h.size) fun h' => hn (hs i hi h')).trans (h.block i hi hn)⟩
theorem Keep.mono (h : Keep S a b) (hs : ∀ i, i < a.heap.size → S i → S' i) : Keep S' a b :=
  ⟨h.os, h.tape, h.output, h.size, fun i hi hn => h.block i hi fun h' => hn (hs i hi h')⟩
theorem Keep.drew (h : Keep S a w) : Keep S a w.drew := ⟨h.os, h.tape, h.output, h.size, h.block⟩
theorem Keep.drewN (h : Keep S a w) (n : Nat) : Keep S a (w.drewN n) := ⟨h.os, h.tape, h.output, h.size, h.block⟩
theorem Keep.alloc (h : Keep S a w) (o : Obj) : Keep S a (w.alloc o) :=
  ⟨h.os, h.tape, h.output, Nat.le_trans h.size (by simp), fun i hi hn => (Below.heap_alloc w o i (Nat.lt_of_lt_of_le hi h.size)).trans (h.block i hi hn)⟩
theorem Keep.setCell (h : Keep S a w) {p : Addr} (hp : a.heap.size ≤ p.block ∨ S p.block) (u : Value) : Keep S a (w.setCell p u) :=
  ⟨h.os, h.tape, h.output, by simpa [World.setCell] using h.size, fun i hi hn => (Below.heap_setCell w p u i (by
    rintro rfl
    rcases hp with hp | hp
    · omega
    · exact hn hp)).trans (h.block i hi hn)⟩
theorem Keep.grown (h : Keep S a w) {row : Option Nat} {w' : World} (hg : w.grownBy w' row) (hr : ∀ k, row = some k → k < a.heap.size → S k) : Keep S a w' :=
  ⟨hg.os.trans h.os, hg.tape.trans h.tape, hg.output.trans h.output, Nat.le_trans h.size hg.size,
    fun i hi hn => (hg.block i (Nat.lt_of_lt_of_le hi h.size) fun e => hn (hr i e.symm hi)).trans (h.block i hi hn)⟩
theorem Keep.of_grown {row : Option Nat} (hg : a.grownBy w row) : Keep (fun k => row = some k) a w := (Keep.refl _ a).grown hg fun _ h _ => h
theorem Keep.of_below (h : Below a.heap.size a w) (S : Nat → Prop) : Keep S a w := ⟨h.os, h.tape, h.output, h.size, fun i hi _ => h.block i hi⟩
theorem Keep.below (h : Keep S a w) {B : Nat} (hB : B ≤ a.heap.size) (hs : ∀ i, i < B → ¬ S i) : Below B a w :=
  ⟨h.os, h.tape, h.output, h.size, fun i hi => h.block i (Nat.lt_of_lt_of_le hi hB) (hs i hi)⟩
theorem Keep.cell (h : Keep S a w) {p : Addr} (hp : p.block < a.heap.size) (hn : ¬ S p.block) : w.cell? p = a.cell? p := World.cell?_of_block (w := a) (h.block p.block hp hn)
theorem Keep.frozen (h : Keep S a w) {p : Addr} (hp : p.block < a.heap.size) (hn : ¬ S p.block) : w.frozen? p = a.frozen? p := World.frozen?_of_block (w := a) (h.block p.block hp hn)
end

section
variable {w w' : World} {B B' : Nat} {A : Option Addr} {l m : List UInt8}
theorem Rd.nil : Rd w B A [] := fun j b h => by simp at h
theorem Rd.keep (h : Rd w B A l) (hk : ∀ p : Addr, p.block < B → w'.cell? p = w.cell? p) : Rd w' B A l := fun j b hj => by
  obtain ⟨a, rfl, hb, hc⟩ := h j b hj
  exact ⟨a, rfl, hb, (hk _ (by rw [block_add]; exact hb)).trans hc⟩
theorem Rd.more (h : Rd w B A l) (hB : B ≤ B') : Rd w B' A l := fun j b hj => by
  obtain ⟨a, rfl, hb, hc⟩ := h j b hj
  exact ⟨a, rfl, by omega, hc⟩
theorem Rd.below (h : Rd w B A l) (hb : Below B w w') : Rd w' B A l := h.keep fun _ hp => hb.cell hp
theorem Rd.kept {S : Nat → Prop} (h : Rd w B A l) (hb : Keep S w w') (hB : B ≤ w.heap.size) (hs : ∀ i, i < B → ¬ S i) : Rd w' B A l := h.below (hb.below hB hs)
theorem Rd.drew (h : Rd w B A l) : Rd w.drew B A l := h
theorem Rd.drewN (h : Rd w B A l) (n : Nat) : Rd (w.drewN n) B A l := h
theorem Rd.alloc (h : Rd w B A l) (hB : B ≤ w.heap.size) (o : Obj) : Rd (w.alloc o) B A l := h.keep fun p hp => World.cell?_alloc_lt w o p (by omega)
theorem Rd.cells (h : Rd w B A l) {k : Nat} (hk : k < l.length) : ∃ a : Addr, A = some a ∧ a.block < B ∧ w.cell? (a.add k) = some (.int .u8 l[k].toNat) := h k _ (List.getElem?_eq_getElem hk)
theorem Rd.at_ {a : Addr} (h : Rd w B (some a) l) {k : Nat} (hk : k < l.length) : w.cell? (a.add k) = some (.int .u8 l[k].toNat) := by
  obtain ⟨a', e, _, hc⟩ := h.cells hk
  injection e with e
  subst e
  exact hc
/-- Bytes laid in a new block. -/
theorem Rd.lit (w : World) (E : TypeId) (fr : Nat × Nat) (l : List UInt8) (cs : Array Value) (hcs : cs = (u8s l).toArray) : Rd (w.alloc (.cells cs E fr)) (w.heap.size + 1) (some ⟨w.heap.size, 0, none⟩) l := by
  intro j b hj
  subst hcs
  refine ⟨_, rfl, by simp, ?_⟩
  rw [show (⟨w.heap.size, 0, none⟩ : Addr).add j = ⟨w.heap.size, j, none⟩ by unfold Addr.add; split <;> simp_all, World.cell?_alloc_mark]
  simp [u8s, hj]
theorem Rd.keepS {S : Nat → Prop} (h : Rd w B A l) (hB : B ≤ w.heap.size) (hk : Keep S w w') (hS : ∀ a : Addr, A = some a → ¬ S a.block) : Rd w' B A l := fun j b hj => by
  obtain ⟨a, rfl, hb, hc⟩ := h j b hj
  exact ⟨a, rfl, hb, (hk.cell (by rw [block_add]; omega) (by rw [block_add]; exact hS a rfl)).trans hc⟩
/-- Bytes that are read lie in no block that holds no byte: a store there leaves them. -/
theorem Rd.far (h : Rd w B A l) {g : Nat} {cs : Array Value} {t : TypeId} {fr : Nat × Nat} (hg : w.heap[g]? = some (.cells cs t fr)) (hno : ∀ x ∈ cs.toList, ∀ z, x ≠ .int .u8 z) : ∀ j, j < l.length → ∀ a : Addr, A = some a → a.block ≠ g := by
  intro j hj a ha he
  subst ha
  have hc := h.at_ hj
  rw [← block_add a j] at he
  simp only [World.cell?, he, hg] at hc
  split at hc
  · cases hc
  · exact hno _ (by simpa using Array.mem_of_getElem? hc) _ rfl
theorem Rd.store (h : Rd w B A l) {g : Nat} {cs : Array Value} {t : TypeId} {fr : Nat × Nat} (hg : w.heap[g]? = some (.cells cs t fr)) (hno : ∀ x ∈ cs.toList, ∀ z, x ≠ .int .u8 z) (j : Nat) (u : Value) : Rd (w.setCell ⟨g, j, none⟩ u) B A l := by
  intro i b hi
  have hlt : i < l.length := by
    rcases Nat.lt_or_ge i l.length with h' | h'
    · exact h'
    · rw [List.getElem?_eq_none h'] at hi; cases hi
  obtain ⟨a, rfl, hb, hc⟩ := h i b hi
  exact ⟨a, rfl, hb, by rw [← hc]; exact World.cell?_of_block (w := w) (Below.heap_setCell w _ u _ (by rw [block_add]; exact h.far hg hno i hlt a rfl))⟩
theorem Rd.some_of (h : Rd w B A l) (hl : 0 < l.length) : ∃ a : Addr, A = some a ∧ a.block < B := by
  obtain ⟨a, e, hb, _⟩ := h.cells hl
  exact ⟨a, e, hb⟩
theorem add_add (a : Addr) (i j : Nat) : (a.add i).add j = a.add (i + j) := by
  unfold Addr.add
  by_cases hi : i = 0 <;> by_cases hj : j = 0 <;> simp [hi, hj, Nat.add_assoc]
/-- A cut at its beginning, as the model spells it. -/
theorem Rd.cut (h : Rd w B A l) {k cap : Nat} (hc : l.length ≤ cap) : Rd w B (if cap = k then A else A.map (·.add k)) (l.drop k) := by
  intro j b hj
  have hj' : l[k + j]? = some b := by rw [← hj, List.getElem?_drop]
  have hlt : k + j < l.length := by
    rcases Nat.lt_or_ge (k + j) l.length with h' | h'
    · exact h'
    · rw [List.getElem?_eq_none h'] at hj'; cases hj'
  obtain ⟨a, rfl, hb, hcell⟩ := h _ b hj'
  rw [if_neg (by omega)]
  exact ⟨a.add k, rfl, by rw [block_add]; exact hb, by rw [add_add]; exact hcell⟩
/-- A cut at its end. -/
theorem Rd.take (h : Rd w B A l) (k : Nat) : Rd w B A (l.take k) := by
  intro j b hj
  refine h j b ?_
  rw [List.getElem?_take] at hj
  split at hj
  · exact hj
  · cases hj
end

section
variable {E : TypeId} {w w' : World} {v : Value} {l : List UInt8}
theorem Own.nil (E : TypeId) (w : World) : Own E w (.slice none 0 0) [] := by simpa [Own, u8s] using World.ownsRow_nil w 0 E 1
theorem Own.shape (h : Own E w v l) : ∃ A c, v = .slice A l.length c ∧ l.length ≤ c ∧ c ≤ maxLen ∧ Rd w w.heap.size A l ∧ (∀ g, v.ownBlock = some g ↔ ∃ a : Addr, A = some a ∧ a.block = g) := by
  have h' := h
  rcases h.2 with ⟨rfl, h0⟩ | ⟨g, cap, cur, rfl, _, hh, hn, hm, _, _⟩
  · have : l = [] := List.eq_nil_of_length_eq_zero h0
    subst this
    exact ⟨none, 0, rfl, Nat.le_refl _, Nat.zero_le _, Rd.nil, fun g => by simp [Value.ownBlock]⟩
  · refine ⟨some ⟨g, 0, none⟩, cap, rfl, hn, hm, fun j b hj => ⟨_, rfl, ?_, ?_⟩, fun k => by simp [Value.ownBlock]⟩
    · exact (Array.getElem?_eq_some_iff.1 hh).1
    · exact World.ownsRow.cells (g := g) h' rfl j _ (by simp [u8s, hj])
theorem Own.len {A : Option Addr} {n c : Nat} (h : Own E w (.slice A n c) l) : n = l.length := by
  obtain ⟨A', c', e, _⟩ := h.shape
  injection e
theorem Own.rd {A : Option Addr} {n c : Nat} (h : Own E w (.slice A n c) l) : Rd w w.heap.size A l := by
  obtain ⟨A', c', e, _, _, hr, _⟩ := h.shape
  injection e with e1 e2 e3
  subst e1
  exact hr
theorem Own.lt (h : Own E w v l) : ∀ k, v.ownBlock = some k → k < w.heap.size := fun k hk => (World.ownsRow.lt h k hk).2
theorem Own.kept {S : Nat → Prop} (h : Own E w v l) (hk : Keep S w w') (hs : ∀ k, v.ownBlock = some k → ¬ S k) : Own E w' v l := by
  refine ⟨h.1, ?_⟩
  rcases h.2 with hn | ⟨g, cap, cur, rfl, hb, hgg, rest⟩
  · exact .inl hn
  · exact .inr ⟨g, cap, cur, rfl, hb, (hk.block g (Array.getElem?_eq_some_iff.1 hgg).1 (hs g rfl)).trans hgg, rest⟩
theorem Own.drew (h : Own E w v l) : Own E w.drew v l := h
theorem Own.drewN (h : Own E w v l) (n : Nat) : Own E (w.drewN n) v l := h
theorem Own.alloc (h : Own E w v l) (o : Obj) : Own E (w.alloc o) v l := World.ownsRow.alloc h o
/-- Bytes laid by a composite literal. -/
theorem Own.lit (E : TypeId) (w : World) (l : List UInt8) (hm : l.length ≤ maxLen) : Own E (w.alloc (.cells (u8s l).toArray E)) (.slice (some ⟨w.heap.size, 0, none⟩) l.length l.length) l := by
  refine ⟨by simp [u8s], .inr ⟨w.heap.size, l.length, (u8s l).toArray, rfl, Nat.zero_le _, heap_alloc_new w _, Nat.le_refl _, hm, by simp [u8s], ?_⟩⟩
  simp only [Nat.mul_one]
  exact List.take_of_length_le (by simp [u8s])
/-- Two rows of other element types lie in other blocks. -/
theorem Own.ne_ {t : TypeId} {cs : Array Value} {g : Nat} (h : Own E w v l) (hg : w.heap[g]? = some (.cells cs t (0, 0))) (hne : E ≠ t) : v.ownBlock ≠ some g := by
  rcases h.2 with ⟨rfl, _⟩ | ⟨g', cap, cur, rfl, _, hh, _⟩
  · simp [Value.ownBlock]
  · intro he
    have : g' = g := by simpa [Value.ownBlock] using he
    subst this
    rw [hh] at hg
    injection hg with hg
    injection hg with _ ht
    exact hne ht
end

/-- What the laws on append ask of the two types. -/
structure U8 (P : Program) (T E : TypeId) : Prop where
  under : P.underlying T = some (.slice E)
  info : ∃ i, P.info? E = some i ∧ i.zero = some (.int .u8 0) ∧ i.size = 1 ∧ i.bytes = 1

/-- A row of zero bytes. -/
def zeros (n : Nat) : List UInt8 := List.replicate n 0
def zrow (n : Nat) : Array Value := (u8s (zeros n)).toArray
theorem zeros_length (n : Nat) : (zeros n).length = n := by simp [zeros]
theorem madeCells_u8 (n : Nat) : madeCells #[Value.int .u8 0] n = zrow n := by
  apply Array.toList_inj.1
  rw [toList_madeCells_one]
  simp [zrow, u8s, zeros]
theorem run_make_u8 {P : Program} {T E : TypeId} (U : U8 P T E) (n : Nat) (hb : n ≤ 140737488355328) (w : World) :
    (Instr.makeSlice T (.int .i64 (n : Int)) (.int .i64 (n : Int))).run P w = .ok (.slice (some ⟨w.heap.size, 0, none⟩) n n) (w.alloc (.cells (zrow n) E)) := by
  obtain ⟨i, hi, hz, hs, hby⟩ := U.info
  have h := run_make (P := P) w T E i _ U.under hi hz .i64 .i64 n n (by omega) (by omega) (by rw [hby]; omega) (by omega)
  rw [hs, Int.toNat_natCast, Nat.mul_one] at h
  rw [← madeCells_u8]
  exact h
/-- A byte is stored into a row of the call's own. -/
theorem Own.store {E : TypeId} {w : World} {g n c : Nat} {l : List UInt8} (h : Own E w (.slice (some ⟨g, 0, none⟩) n c) l) (j : Nat) (b : UInt8) : Own E (w.setCell ⟨g, j, none⟩ (.int .u8 b.toNat)) (.slice (some ⟨g, 0, none⟩) n c) (l.set j b) := by
  have hn : n = l.length := h.len
  subst hn
  have h1 := (World.ownsRow.stored (g := g) h j (.int .u8 b.toNat)).1
  have e : u8s (l.set j b) = (u8s l).set j (.int .u8 b.toNat) := by simp [u8s, List.map_set]
  unfold Own
  rw [e, List.length_set]
  exact h1
theorem Own.cellAt {E : TypeId} {w : World} {g n c : Nat} {l : List UInt8} (h : Own E w (.slice (some ⟨g, 0, none⟩) n c) l) (j : Nat) (hj : j < l.length) : w.cell? ⟨g, j, none⟩ = some (.int .u8 l[j].toNat) := by
  have hn : n = l.length := h.len
  subst hn
  have h1 := World.ownsRow.cellAt (g := g) h j (by omega)
  rw [h1]
  simp [u8s, hj]
theorem Own.frozenAt {E : TypeId} {w : World} {g n c : Nat} {l : List UInt8} (h : Own E w (.slice (some ⟨g, 0, none⟩) n c) l) (j : Nat) : w.frozen? ⟨g, j, none⟩ = false := by
  have hn : n = l.length := h.len
  subst hn
  exact World.ownsRow.frozenAt (g := g) h j
theorem quiet_left {P : Program} {f : FuncId} {args : Array Value} {w : World} {n : Nat} {v : Value}
    (h : Hid (Calls P f args (w.drewN n) fun e w' => e = .returned v ∧ w.drewN n = w')) : Calls P f args (w.drewN n) fun e w' => e = .returned v ∧ ∃ m, w' = w.drewN m :=
  h.out.mono fun _ _ ⟨he, hm⟩ => ⟨he, n, hm.symm⟩
theorem Own.cut0 {E : TypeId} {w : World} {g n c : Nat} {l : List UInt8} (h : Own E w (.slice (some ⟨g, 0, none⟩) n c) l) : Own E w (.slice (some ⟨g, 0, none⟩) 0 c) [] := by
  refine ⟨rfl, .inr ?_⟩
  rcases h.2 with ⟨h', _⟩ | ⟨g', cap, cur, h', hb, hg, hnc, hcm, hcs, _⟩
  · cases h'
  · simp only [Value.slice.injEq, Option.some.injEq, Addr.mk.injEq, and_true] at h'
    obtain ⟨rfl, _, rfl⟩ := h'
    exact ⟨g, c, cur, rfl, hb, hg, Nat.zero_le _, hcm, hcs, by simp [u8s]⟩
theorem Own.zeros (E : TypeId) (w : World) (n : Nat) (hn : n ≤ maxLen) : Own E (w.alloc (.cells (zrow n) E)) (.slice (some ⟨w.heap.size, 0, none⟩) n n) (zeros n) := by
  have h := Own.lit E w (Go.Proofs.Ytncenfgnhamdbaa.zeros n) (by simpa [Go.Proofs.Ytncenfgnhamdbaa.zeros] using hn)
  rw [zeros_length] at h
  exact h

/-- The value's row, if it has one, is newer than the world a. -/
def NB (a : World) (v : Value) : Prop := ∀ k, v.ownBlock = some k → a.heap.size ≤ k
theorem NB.nil (a : World) : NB a (.slice none 0 0) := fun k h => by simp [Value.ownBlock] at h
theorem NB.new {a w : World} (h : a.heap.size ≤ w.heap.size) (n c : Nat) : NB a (.slice (some ⟨w.heap.size, 0, none⟩) n c) := fun k hk => by
  simp only [Value.ownBlock, Option.some.injEq] at hk
  omega
theorem NB.next {a w : World} {v v' : Value} (h : NB a v) (hs : a.heap.size ≤ w.heap.size) (hf : v'.ownBlock = v.ownBlock ∨ v'.ownBlock = some w.heap.size) : NB a v' := fun k hk => by
  rcases hf with hf | hf
  · exact h k (hf ▸ hk)
  · rw [hf] at hk
    injection hk with hk
    omega
theorem NB.older {a b : World} {v : Value} (h : NB b v) (hs : a.heap.size ≤ b.heap.size) : NB a v := fun k hk => Nat.le_trans hs (h k hk)
theorem Keep.own {S : Nat → Prop} {a w w' : World} {v : Value} (h : Keep S a w) (hg : w.grownBy w' v.ownBlock) (hv : NB a v) : Keep S a w' := h.grown hg fun k hk hlt => by
  have := hv k hk
  omega
theorem Rd.keepF {w w' : World} {B : Nat} {A : Option Addr} {l : List UInt8} (h : Rd w B A l) (hb : Keep (fun _ => False) w w') (hB : B ≤ w.heap.size) : Rd w' B A l := h.kept hb hB fun _ _ h => h

section
variable {P : Program} (w : World)
/-- append onto a row of bytes of the call's own, from whatever reads as bytes. -/
theorem run_append_u8 {T E : TypeId} (U : U8 P T E) (ty : TypeId) (v : Value) (l : List UInt8) (hown : Own E w v l) (B : Nat) (A : Option Addr) (c : Nat) (m : List UInt8) (n : Nat) (hn : n = m.length) (hr : Rd w B A m)
    (hb : l.length + m.length ≤ 70368744177664) :
    ∃ v' w', (Builtin.append_ #[T, T] ty #[v, .slice A n c]).run P w = .ok v' w' ∧ Own E w' v' (l ++ m) ∧ w.grownBy w' v.ownBlock ∧ (v'.ownBlock = v.ownBlock ∨ v'.ownBlock = some w.heap.size) := by
  subst hn
  obtain ⟨i, hi, hz, hs, hby⟩ := U.info
  rcases hm : A with _ | ad
  · have : m = [] := by
      rcases m with _ | ⟨b, m⟩
      · rfl
      · obtain ⟨a, h, _⟩ := hr 0 b rfl
        rw [hm] at h
        cases h
    subst this
    refine ⟨v, w, ?_, by simpa using hown, World.grownBy.refl w _, .inl rfl⟩
    rcases hown.2 with ⟨rfl, h0⟩ | ⟨g, cap, cur, rfl, _, _, hnc, _⟩
    · simp [Builtin.append_, run_underlying U.under, sizeOf, typeInfo, hi, Builtin.lenOf, Builtin.firstCells]
    · simp [Builtin.append_, run_underlying U.under, sizeOf, typeInfo, hi, Builtin.lenOf, Builtin.firstCells, hnc, storeCells]
  · subst hm
    have hcells : ∀ j u, (u8s m)[j]? = some u → w.cell? (ad.add j) = some u := by
      intro j u hu
      simp only [u8s, List.getElem?_map, Option.map_eq_some_iff] at hu
      obtain ⟨b, hb, rfl⟩ := hu
      obtain ⟨a, e, _, hc⟩ := hr j b hb
      injection e with e
      subst e
      exact hc
    obtain ⟨v', w', hrun, h2, h3, _, h5⟩ := run_append_own_at (P := P) w 0 T ty E i (.int .u8 0) 1 1 U.under hi hz hs hby rfl (by omega) v l.length (u8s l) hown ad m.length c (u8s m) (by simp [u8s]) hcells (u8s_one m) (by simp only [maxLen]; omega) (by omega) (Nat.zero_le _)
    exact ⟨v', w', hrun, by simpa [Own, u8s_append] using h2, h3, h5⟩

/-- 'append(nil, make([]byte, n)...)'. -/
theorem run_append_made {T E I : TypeId} (U : U8 P T E) (hI : P.underlying I = some (.int .i64)) (ty : TypeId) (n : Nat) (h0 : 0 < n) (hb : n ≤ 70368744177664) :
    ∃ cap w', (Builtin.append_ #[T, I] ty #[.slice none 0 0, .int .i64 (n : Int)]).run P w = .ok (.slice (some ⟨w.heap.size, 0, none⟩) n cap) w' ∧ Own E w' (.slice (some ⟨w.heap.size, 0, none⟩) n cap) (zeros n) ∧ n ≤ cap ∧ w.grownBy w' none := by
  obtain ⟨i, hi, hz, hs, hby⟩ := U.info
  have wl : IntKind.i64.wrap (n : Int) = n := by rw [IntKind.wrap_i64]; omega
  have n1 : ¬ (n : Int) < 0 := by omega
  have n2 : ¬ (281474976710656 < (n : Int)) := by omega
  have hn : n ≠ 0 := by omega
  have h63' : ¬ (9223372036854775807 < (n : Int)) := by omega
  have h48' : ¬ (281474976710656 < Builtin.nextslicecap n 0) := by rw [nextslicecap_zero h0]; omega
  have hge := grownCap_ge w n 0 E
  have hcm := grownCap_le_maxLen w n 0 E (by simp only [maxLen]; omega)
  have hzc : ∀ k, Builtin.zeroCells (Value.int .u8 0).cells k = zrow k := fun k => by
    apply Array.toList_inj.1
    apply List.ext_getElem?
    intro j
    by_cases hj : j < k <;> simp [Builtin.zeroCells, zrow, u8s, zeros, Value.cells, hj, Nat.mod_one]
  refine ⟨grownCap w n 0 E, w.drew.alloc (.cells (zrow n ++ zrow (grownCap w n 0 E - n)) E), ?_, ⟨by simp [u8s, zeros], .inr ⟨w.heap.size, _, _, by rw [zeros_length], Nat.zero_le _, heap_alloc_new w.drew _, by rw [zeros_length]; exact hge, hcm, ?_, ?_⟩⟩, hge, ⟨rfl, rfl, rfl, by simp, fun k hk _ => Below.heap_alloc w.drew _ k hk⟩⟩
  · simp [Builtin.append_, run_underlying U.under, run_underlying hI, sizeOf, typeInfo, zeroValue, hi, hz, hs, hby, Builtin.lenOf, asInt, asIntOf, wl, n1, n2, hn, h63', h48', Question.forced, run_firstCells_none, newRow, grownCap, hzc]
  · simp [zrow, u8s, zeros]
    omega
  · rw [zeros_length, Nat.mul_one, Array.toList_append]
    exact List.take_left' (by simp [zrow, u8s, zeros])

theorem wpList_append_made {ops : Array Oper} {rest : List Oper} {o : Oper} {a : Act} {Q : Exit → Act → World → Prop} (hgd : o.guard = none) (s x : Operand) (T I : TypeId)
    (ho : o.op = .call { callee := .builtin .append, args := #[s, x], argTypes := #[T, I] }) {E : TypeId} (U : U8 P T E) (hI : P.underlying I = some (.int .i64)) (n : Nat) (hs : a.eval s = .slice none 0 0) (hx : a.eval x = .int .i64 (n : Int)) (h0 : 0 < n) (hb : n ≤ 70368744177664)
    (h : ∀ cap w', Own E w' (.slice (some ⟨w.heap.size, 0, none⟩) n cap) (zeros n) → n ≤ cap → cap ≤ maxLen → w.grownBy w' none → wpList P ops Q rest (a.put o.dst (.slice (some ⟨w.heap.size, 0, none⟩) n cap)) w') : wpList P ops Q (o :: rest) a w := by
  refine wpList_plain hgd fun K hK => ?_
  obtain ⟨cap, w', hrun, h2, h3, h4⟩ := run_append_made (P := P) w U hI o.type n h0 hb
  have hm : cap ≤ maxLen := by
    obtain ⟨A', c', e, _, hm, _⟩ := h2.shape
    injection e with _ _ e
    omega
  unfold Oper.wp execOp
  simp only [ho, resolve, invoke, builtin, Sem.run_bind, Sem.run_pure, Result.andThen_ok, List.map_toArray, List.map_cons, List.map_nil, hs, hx, hrun]
  exact hK _ _ (h cap w' h2 h3 hm h4)

theorem wp_append_u8 {o : Oper} {a : Act} {K : Act → World → Prop} {Q : Exit → Act → World → Prop} (s x : Operand) (T : TypeId)
    (ho : o.op = .call { callee := .builtin .append, args := #[s, x], argTypes := #[T, T] }) {E : TypeId} (U : U8 P T E) (v : Value) (l : List UInt8) (hs : a.eval s = v) (hown : Own E w v l) (B : Nat) (A : Option Addr) (n c : Nat) (m : List UInt8)
    (hx : a.eval x = .slice A n c) (hn : n = m.length) (hr : Rd w B A m) (hb : l.length + m.length ≤ 70368744177664)
    (h : ∀ A' n' c' w', Own E w' (.slice A' n' c') (l ++ m) → Hid (n' = (l ++ m).length) → n' ≤ c' → c' ≤ maxLen → w.grownBy w' v.ownBlock → ((Value.slice A' n' c').ownBlock = v.ownBlock ∨ (Value.slice A' n' c').ownBlock = some w.heap.size) → K (a.put o.dst (.slice A' n' c')) w') : o.wp P a w K Q := by
  obtain ⟨v', w', hrun, h2, h3, h4⟩ := run_append_u8 (P := P) w U o.type v l hown B A c m n hn hr hb
  unfold Oper.wp execOp
  simp only [ho, resolve, invoke, builtin, Sem.run_bind, Sem.run_pure, Result.andThen_ok, List.map_toArray, List.map_cons, List.map_nil, hs, hx, hrun]
  obtain ⟨A', c', rfl, hle, hm, _, _⟩ := h2.shape
  exact h _ _ _ w' h2 rfl hle hm h3 h4

theorem wpList_append_u8 {ops : Array Oper} {rest : List Oper} {o : Oper} {a : Act} {Q : Exit → Act → World → Prop} (hgd : o.guard = none) (s x : Operand) (T : TypeId)
    (ho : o.op = .call { callee := .builtin .append, args := #[s, x], argTypes := #[T, T] }) {E : TypeId} (U : U8 P T E) (v : Value) (l : List UInt8) (hs : a.eval s = v) (hown : Own E w v l) (B : Nat) (A : Option Addr) (n c : Nat) (m : List UInt8)
    (hx : a.eval x = .slice A n c) (hn : n = m.length) (hr : Rd w B A m) (hb : l.length + m.length ≤ 70368744177664)
    (h : ∀ A' n' c' w', Own E w' (.slice A' n' c') (l ++ m) → Hid (n' = (l ++ m).length) → n' ≤ c' → c' ≤ maxLen → w.grownBy w' v.ownBlock → ((Value.slice A' n' c').ownBlock = v.ownBlock ∨ (Value.slice A' n' c').ownBlock = some w.heap.size) → wpList P ops Q rest (a.put o.dst (.slice A' n' c')) w') : wpList P ops Q (o :: rest) a w :=
  wpList_plain hgd fun _ hK => wp_append_u8 w s x T ho U v l hs hown B A n c m hx hn hr hb fun A' n' c' w' h2 h3 h4 h5 h6 h7 => hK _ _ (h A' n' c' w' h2 h3 h4 h5 h6 h7)

theorem step_append_u8 {ops : Array Oper} {o : Oper} {a : Act} {K : Act → World → Prop} {Q : Exit → Act → World → Prop} {N : Prop} (hgd : o.guard = none) (s x : Operand) (T : TypeId)
    (ho : o.op = .call { callee := .builtin .append, args := #[s, x], argTypes := #[T, T] }) {E : TypeId} (U : U8 P T E) (v : Value) (l : List UInt8) (hs : a.eval s = v) (hown : Own E w v l) (B : Nat) (A : Option Addr) (n c : Nat) (m : List UInt8)
    (hx : a.eval x = .slice A n c) (hn : n = m.length) (hr : Rd w B A m) (hb : l.length + m.length ≤ 70368744177664)
    (h : ∀ A' n' c' w', Own E w' (.slice A' n' c') (l ++ m) → Hid (n' = (l ++ m).length) → n' ≤ c' → c' ≤ maxLen → w.grownBy w' v.ownBlock → ((Value.slice A' n' c').ownBlock = v.ownBlock ∨ (Value.slice A' n' c').ownBlock = some w.heap.size) → K (a.put o.dst (.slice A' n' c')) w') : if Region.wanted o (yielded ops a.tmps) = true then Oper.wp P o a w K Q else N := by
  have hw : Region.wanted o (yielded ops a.tmps) = true := by simp [Region.wanted, hgd]
  rw [if_pos hw]
  exact wp_append_u8 w s x T ho U v l hs hown B A n c m hx hn hr hb h
end
end Go.Proofs.Ytncenfgnhamdbaa
