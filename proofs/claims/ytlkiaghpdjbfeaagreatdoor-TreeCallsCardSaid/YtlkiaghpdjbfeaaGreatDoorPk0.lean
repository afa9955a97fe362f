/-
  Words for memory that the walks of this seat share: a row of bytes that is read, a row of bytes that the call owns, what is kept over a step. It speaks of no program.
  Names and paths as functions on lists of bytes: what the document's chapter on paths says, over no program.
  Rows of texts that lie in memory, and what a call keeps that only lays new memory. It speaks of no program.
  Maps in memory, whatever their elements are: what stands at each key, as a function. It speaks of no program.
  A directory's entries: a row of names, rising by their bytes, each with a node's number. Over no program.
  The document's tree as plain data: nodes by their numbers; what each call answers and leaves. Over no program.
  What holds of every tree that calls lead to: each node is of as many entries as it has links, each directory but the root of one, and all directories stand beneath the root. Over no program.
-/
import Derived.WalkKit
import Derived.WalkSpells
import Derived.WalkLawsBesides
import Derived.Outline
import Derived.Laws.BitsAllLaws
import Derived.Lib.Hide
import Derived.Maps.AppendAt
import Derived.Deep.AppendLies
import Derived.Deep.Draws
import Derived.Deep.QuietTactic
import Derived.RegionTactic
import Derived.OneCell
import Derived.Lib.SlBytesConst
import Derived.Lib.Join
import Derived.Lib.Split
import Derived.Lib.IndexMore
import Derived.Lib.SliceRun
import Derived.Maps.OwnSet
import Derived.Sort.KeysCollected
import Derived.Lib.SlKeysI
import GoSem.Op.String
namespace Go.Proofs.YtlkiaghpdjbfeaaGreatDoor
open Go.RowKit

/-- Bytes as the values that cells hold. -/
def u8s (l : List UInt8) : List Value := l.map fun b => .int .u8 (b.toNat : Int)
theorem u8s_length (l : List UInt8) : (u8s l).length = l.length := by simp [u8s]
theorem u8s_append (l m : List UInt8) : u8s (l ++ m) = u8s l ++ u8s m := by simp [u8s]
theorem u8s_one (l : List UInt8) : ∀ u ∈ u8s l, u.oneCell' = true := by
  intro u hu
  simp only [u8s, List.mem_map] at hu
  obtain ⟨b, _, rfl⟩ := hu
  rfl

/-- The cells from 'A' on hold the bytes l, in blocks below B. -/
def Rd (w : World) (B : Nat) (A : Option Addr) (l : List UInt8) : Prop :=
  ∀ j b, l[j]? = some b → ∃ a : Addr, A = some a ∧ a.block < B ∧ w.cell? (a.add j) = some (.int .u8 b.toNat)

/-- The value v is a row of the call's own that holds the bytes l. -/
def Own (E : TypeId) (w : World) (v : Value) (l : List UInt8) : Prop := w.ownsRow 0 E 1 v l.length (u8s l)

/-- All blocks that were there, but those of S, are as they were. -/
structure Keep (S : Nat → Prop) (a w : World) : Prop where
  os : w.os = a.os
  tape : w.tape = a.tape
  output : w.output = a.output
  size : a.heap.size ≤ w.heap.size
  block : ∀ k, k < a.heap.size → ¬ S k → w.heap[k]? = a.heap[k]?

theorem block_add (a : Addr) (n : Nat) : (a.add n).block = a.block := by unfold Addr.add; split <;> rfl

section
variable {S S' : Nat → Prop} {a b c w : World}
theorem Keep.refl (S : Nat → Prop) (a : World) : Keep S a a := ⟨rfl, rfl, rfl, Nat.le_refl _, fun _ _ _ => rfl⟩
theorem Keep.trans (h : Keep S a b) (k : Keep S' b c) (hs : ∀ i, i < a.heap.size → S' i → S i) : Keep S a c :=
  ⟨k.os.trans h.os, k.tape.trans h.tape, k.output.trans h.output, Nat.le_trans h.size k.size,
    fun i hi hn => (k.block i (Nat.lt_of_lt_of_le hi h.size) fun h' => hn (hs i hi h')).trans (h.block i hi hn)⟩
theorem Keep.mono (h : Keep S a b) (hs : ∀ i, i < a.heap.size → S i → S' i) : Keep S' a b :=
  ⟨h.os, h.tape, h.output, h.size, fun i hi hn => h.block i hi fun h' => hn (hs i hi h')⟩
theorem Keep.drew (h : Keep S a w) : Keep S a w.drew := ⟨h.os, h.tape, h.output, h.size, h.block⟩
theorem Keep.drewN (h : Keep S a w) (n : Nat) : Keep S a (w.drewN n) := ⟨h.os, h.tape, h.output, h.size, h.block⟩
theorem Keep.alloc (h : Keep S a w) (o : Obj) : Keep S a (w.alloc o) :=
  ⟨h.os, h.tape, h.output, Nat.le_trans h.size (by simp), fun i hi hn => (Below.heap_alloc w o i (Nat.lt_of_lt_of_le hi h.size)).trans (h.block i hi hn)⟩
theorem Keep.setCell (h : Keep S a w) {p : Addr} (hp : a.heap.size ≤ p.block ∨ S p.block) (u : Value) : Keep S a (w.setCell p u) :=
  ⟨h.os, h.tape, h.output, by simpa [World.setCell] using h.size, fun i hi hn => (Below.heap_setCell w p u i (by
    rintro rfl
    rcases hp with hp | hp
    · omega
    · exact hn hp)).trans (h.block i hi hn)⟩
theorem Keep.grown (h : Keep S a w) {row : Option Nat} {w' : World} (hg : w.grownBy w' row) (hr : ∀ k, row = some k → k < a.heap.size → S k) : Keep S a w' :=
  ⟨hg.os.trans h.os, hg.tape.trans h.tape, hg.output.trans h.output, Nat.le_trans h.size hg.size,
    fun i hi hn => (hg.block i (Nat.lt_of_lt_of_le hi h.size) fun e => hn (hr i e.symm hi)).trans (h.block i hi hn)⟩
theorem Keep.of_grown {row : Option Nat} (hg : a.grownBy w row) : Keep (fun k => row = some k) a w := (Keep.refl _ a).grown hg fun _ h _ => h
theorem Keep.of_below (h : Below a.heap.size a w) (S : Nat → Prop) : Keep S a w := ⟨h.os, h.tape, h.output, h.size, fun i hi _ => h.block i hi⟩
theorem Keep.below (h : Keep S a w) {B : Nat} (hB : B ≤ a.heap.size) (hs : ∀ i, i < B → ¬ S i) : Below B a w :=
  ⟨h.os, h.tape, h.output, h.size, fun i hi => h.block i (Nat.lt_of_lt_of_le hi hB) (hs i hi)⟩
theorem Keep.cell (h : Keep S a w) {p : Addr} (hp : p.block < a.heap.size) (hn : ¬ S p.block) : w.cell? p = a.cell? p := World.cell?_of_block (w := a) (h.block p.block hp hn)
theorem Keep.frozen (h : Keep S a w) {p : Addr} (hp : p.block < a.heap.size) (hn : ¬ S p.block) : w.frozen? p = a.frozen? p := World.frozen?_of_block (w := a) (h.block p.block hp hn)
end

section
variable {w w' : World} {B B' : Nat} {A : Option Addr} {l m : List UInt8}
theorem Rd.nil : Rd w B A [] := fun j b h => by simp at h
theorem Rd.keep (h : Rd w B A l) (hk : ∀ p : Addr, p.block < B → w'.cell? p = w.cell? p) : Rd w' B A l := fun j b hj => by
  obtain ⟨a, rfl, hb, hc⟩ := h j b hj
  exact ⟨a, rfl, hb, (hk _ (by rw [block_add]; exact hb)).trans hc⟩
theorem Rd.more (h : Rd w B A l) (hB : B ≤ B') : Rd w B' A l := fun j b hj => by
  obtain ⟨a, rfl, hb, hc⟩ := h j b hj
  exact ⟨a, rfl, by omega, hc⟩
theorem Rd.below (h : Rd w B A l) (hb : Below B w w') : Rd w' B A l := h.keep fun _ hp => hb.cell hp
theorem Rd.kept {S : Nat → Prop} (h : Rd w B A l) (hb : Keep S w w') (hB : B ≤ w.heap.size) (hs : ∀ i, i < B → ¬ S i) : Rd w' B A l := h.below (hb.below hB hs)
theorem Rd.drew (h : Rd w B A l) : Rd w.drew B A l := h
theorem Rd.drewN (h : Rd w B A l) (n : Nat) : Rd (w.drewN n) B A l := h
theorem Rd.alloc (h : Rd w B A l) (hB : B ≤ w.heap.size) (o : Obj) : Rd (w.alloc o) B A l := h.keep fun p hp => World.cell?_alloc_lt w o p (by omega)
theorem Rd.cells (h : Rd w B A l) {k : Nat} (hk : k < l.length) : ∃ a : Addr, A = some a ∧ a.block < B ∧ w.cell? (a.add k) = some (.int .u8 l[k].toNat) := h k _ (List.getElem?_eq_getElem hk)
theorem Rd.at_ {a : Addr} (h : Rd w B (some a) l) {k : Nat} (hk : k < l.length) : w.cell? (a.add k) = some (.int .u8 l[k].toNat) := by
  obtain ⟨a', e, _, hc⟩ := h.cells hk
  injection e with e
  subst e
  exact hc
/-- Bytes laid in a new block. -/
theorem Rd.lit (w : World) (E : TypeId) (fr : Nat × Nat) (l : List UInt8) (cs : Array Value) (hcs : cs = (u8s l).toArray) : Rd (w.alloc (.cells cs E fr)) (w.heap.size + 1) (some ⟨w.heap.size, 0, none⟩) l := by
  intro j b hj
  subst hcs
  refine ⟨_, rfl, by simp, ?_⟩
  rw [show (⟨w.heap.size, 0, none⟩ : Addr).add j = ⟨w.heap.size, j, none⟩ by unfold Addr.add; split <;> simp_all, World.cell?_alloc_mark]
  simp [u8s, hj]
theorem Rd.keepS {S : Nat → Prop} (h : Rd w B A l) (hB : B ≤ w.heap.size) (hk : Keep S w w') (hS : ∀ a : Addr, A = some a → ¬ S a.block) : Rd w' B A l := fun j b hj => by
  obtain ⟨a, rfl, hb, hc⟩ := h j b hj
  exact ⟨a, rfl, hb, (hk.cell (by rw [block_add]; omega) (by rw [block_add]; exact hS a rfl)).trans hc⟩
/-- Bytes that are read lie in no block that holds no byte: a store there leaves them. -/
theorem Rd.far (h : Rd w B A l) {g : Nat} {cs : Array Value} {t : TypeId} {fr : Nat × Nat} (hg : w.heap[g]? = some (.cells cs t fr)) (hno : ∀ x ∈ cs.toList, ∀ z, x ≠ .int .u8 z) : ∀ j, j < l.length → ∀ a : Addr, A = some a → a.block ≠ g := by
  intro j hj a ha he
  subst ha
  have hc := h.at_ hj
  rw [← block_add a j] at he
  simp only [World.cell?, he, hg] at hc
  split at hc
  · cases hc
  · exact hno _ (by simpa using Array.mem_of_getElem? hc) _ rfl
theorem Rd.store (h : Rd w B A l) {g : Nat} {cs : Array Value} {t : TypeId} {fr : Nat × Nat} (hg : w.heap[g]? = some (.cells cs t fr)) (hno : ∀ x ∈ cs.toList, ∀ z, x ≠ .int .u8 z) (j : Nat) (u : Value) : Rd (w.setCell ⟨g, j, none⟩ u) B A l := by
  intro i b hi
  have hlt : i < l.length := by
    rcases Nat.lt_or_ge i l.length with h' | h'
    · exact h'
    · rw [List.getElem?_eq_none h'] at hi; cases hi
  obtain ⟨a, rfl, hb, hc⟩ := h i b hi
  exact ⟨a, rfl, hb, by rw [← hc]; exact World.cell?_of_block (w := w) (Below.heap_setCell w _ u _ (by rw [block_add]; exact h.far hg hno i hlt a rfl))⟩
theorem Rd.some_of (h : Rd w B A l) (hl : 0 < l.length) : ∃ a : Addr, A = some a ∧ a.block < B := by
  obtain ⟨a, e, hb, _⟩ := h.cells hl
  exact ⟨a, e, hb⟩
theorem add_add (a : Addr) (i j : Nat) : (a.add i).add j = a.add (i + j) := by
  unfold Addr.add
  by_cases hi : i = 0 <;> by_cases hj : j = 0 <;> simp [hi, hj, Nat.add_assoc]
/-- A cut at its beginning, as the model spells it. -/
theorem Rd.cut (h : Rd w B A l) {k cap : Nat} (hc : l.length ≤ cap) : Rd w B (if cap = k then A else A.map (·.add k)) (l.drop k) := by
  intro j b hj
  have hj' : l[k + j]? = some b := by rw [← hj, List.getElem?_drop]
  have hlt : k + j < l.length := by
    rcases Nat.lt_or_ge (k + j) l.length with h' | h'
    · exact h'
    · rw [List.getElem?_eq_none h'] at hj'; cases hj'
  obtain ⟨a, rfl, hb, hcell⟩ := h _ b hj'
  rw [if_neg (by omega)]
  exact ⟨a.add k, rfl, by rw [block_add]; exact hb, by rw [add_add]; exact hcell⟩
/-- A cut at its end. -/
theorem Rd.take (h : Rd w B A l) (k : Nat) : Rd w B A (l.take k) := by
  intro j b hj
  refine h j b ?_
  rw [List.getElem?_take] at hj
  split at hj
  · exact hj
  · cases hj
end

section
variable {E : TypeId} {w w' : World} {v : Value} {l : List UInt8}
theorem Own.nil (E : TypeId) (w : World) : Own E w (.slice none 0 0) [] := by simpa [Own, u8s] using World.ownsRow_nil w 0 E 1
theorem Own.shape (h : Own E w v l) : ∃ A c, v = .slice A l.length c ∧ l.length ≤ c ∧ c ≤ maxLen ∧ Rd w w.heap.size A l ∧ (∀ g, v.ownBlock = some g ↔ ∃ a : Addr, A = some a ∧ a.block = g) := by
  have h' := h
  rcases h.2 with ⟨rfl, h0⟩ | ⟨g, cap, cur, rfl, _, hh, hn, hm, _, _⟩
  · have : l = [] := List.eq_nil_of_length_eq_zero h0
    subst this
    exact ⟨none, 0, rfl, Nat.le_refl _, Nat.zero_le _, Rd.nil, fun g => by simp [Value.ownBlock]⟩
  · refine ⟨some ⟨g, 0, none⟩, cap, rfl, hn, hm, fun j b hj => ⟨_, rfl, ?_, ?_⟩, fun k => by simp [Value.ownBlock]⟩
    · exact (Array.getElem?_eq_some_iff.1 hh).1
    · exact World.ownsRow.cells (g := g) h' rfl j _ (by simp [u8s, hj])
theorem Own.len {A : Option Addr} {n c : Nat} (h : Own E w (.slice A n c) l) : n = l.length := by
  obtain ⟨A', c', e, _⟩ := h.shape
  injection e
theorem Own.rd {A : Option Addr} {n c : Nat} (h : Own E w (.slice A n c) l) : Rd w w.heap.size A l := by
  obtain ⟨A', c', e, _, _, hr, _⟩ := h.shape
  injection e with e1 e2 e3
  subst e1
  exact hr
theorem Own.lt (h : Own E w v l) : ∀ k, v.ownBlock = some k → k < w.heap.size := fun k hk => (World.ownsRow.lt h k hk).2
theorem Own.kept {S : Nat → Prop} (h : Own E w v l) (hk : Keep S w w') (hs : ∀ k, v.ownBlock = some k → ¬ S k) : Own E w' v l := by
  refine ⟨h.1, ?_⟩
  rcases h.2 with hn | ⟨g, cap, cur, rfl, hb, hgg, rest⟩
  · exact .inl hn
  · exact .inr ⟨g, cap, cur, rfl, hb, (hk.block g (Array.getElem?_eq_some_iff.1 hgg).1 (hs g rfl)).trans hgg, rest⟩
theorem Own.drew (h : Own E w v l) : Own E w.drew v l := h
theorem Own.drewN (h : Own E w v l) (n : Nat) : Own E (w.drewN n) v l := h
theorem Own.alloc (h : Own E w v l) (o : Obj) : Own E (w.alloc o) v l := World.ownsRow.alloc h o
/-- Bytes laid by a composite literal. -/
theorem Own.lit (E : TypeId) (w : World) (l : List UInt8) (hm : l.length ≤ maxLen) : Own E (w.alloc (.cells (u8s l).toArray E)) (.slice (some ⟨w.heap.size, 0, none⟩) l.length l.length) l := by
  refine ⟨by simp [u8s], .inr ⟨w.heap.size, l.length, (u8s l).toArray, rfl, Nat.zero_le _, heap_alloc_new w _, Nat.le_refl _, hm, by simp [u8s], ?_⟩⟩
  simp only [Nat.mul_one]
  exact List.take_of_length_le (by simp [u8s])
/-- Two rows of other element types lie in other blocks. -/
theorem Own.ne_ {t : TypeId} {cs : Array Value} {g : Nat} (h : Own E w v l) (hg : w.heap[g]? = some (.cells cs t (0, 0))) (hne : E ≠ t) : v.ownBlock ≠ some g := by
  rcases h.2 with ⟨rfl, _⟩ | ⟨g', cap, cur, rfl, _, hh, _⟩
  · simp [Value.ownBlock]
  · intro he
    have : g' = g := by simpa [Value.ownBlock] using he
    subst this
    rw [hh] at hg
    injection hg with hg
    injection hg with _ ht
    exact hne ht
end

/-- What the laws on append ask of the two types. -/
structure U8 (P : Program) (T E : TypeId) : Prop where
  under : P.underlying T = some (.slice E)
  info : ∃ i, P.info? E = some i ∧ i.zero = some (.int .u8 0) ∧ i.size = 1 ∧ i.bytes = 1

/-- A row of zero bytes. -/
def zeros (n : Nat) : List UInt8 := List.replicate n 0
def zrow (n : Nat) : Array Value := (u8s (zeros n)).toArray
theorem zeros_length (n : Nat) : (zeros n).length = n := by simp [zeros]
theorem madeCells_u8 (n : Nat) : madeCells #[Value.int .u8 0] n = zrow n := by
  apply Array.toList_inj.1
  rw [toList_madeCells_one]
  simp [zrow, u8s, zeros]
theorem run_make_u8 {P : Program} {T E : TypeId} (U : U8 P T E) (n : Nat) (hb : n ≤ 140737488355328) (w : World) :
    (Instr.makeSlice T (.int .i64 (n : Int)) (.int .i64 (n : Int))).run P w = .ok (.slice (some ⟨w.heap.size, 0, none⟩) n n) (w.alloc (.cells (zrow n) E)) := by
  obtain ⟨i, hi, hz, hs, hby⟩ := U.info
  have h := run_make (P := P) w T E i _ U.under hi hz .i64 .i64 n n (by omega) (by omega) (by rw [hby]; omega) (by omega)
  rw [hs, Int.toNat_natCast, Nat.mul_one] at h
  rw [← madeCells_u8]
  exact h
/-- A byte is stored into a row of the call's own. -/
theorem Own.store {E : TypeId} {w : World} {g n c : Nat} {l : List UInt8} (h : Own E w (.slice (some ⟨g, 0, none⟩) n c) l) (j : Nat) (b : UInt8) : Own E (w.setCell ⟨g, j, none⟩ (.int .u8 b.toNat)) (.slice (some ⟨g, 0, none⟩) n c) (l.set j b) := by
  have hn : n = l.length := h.len
  subst hn
  have h1 := (World.ownsRow.stored (g := g) h j (.int .u8 b.toNat)).1
  have e : u8s (l.set j b) = (u8s l).set j (.int .u8 b.toNat) := by simp [u8s, List.map_set]
  unfold Own
  rw [e, List.length_set]
  exact h1
theorem Own.cellAt {E : TypeId} {w : World} {g n c : Nat} {l : List UInt8} (h : Own E w (.slice (some ⟨g, 0, none⟩) n c) l) (j : Nat) (hj : j < l.length) : w.cell? ⟨g, j, none⟩ = some (.int .u8 l[j].toNat) := by
  have hn : n = l.length := h.len
  subst hn
  have h1 := World.ownsRow.cellAt (g := g) h j (by omega)
  rw [h1]
  simp [u8s, hj]
theorem Own.frozenAt {E : TypeId} {w : World} {g n c : Nat} {l : List UInt8} (h : Own E w (.slice (some ⟨g, 0, none⟩) n c) l) (j : Nat) : w.frozen? ⟨g, j, none⟩ = false := by
  have hn : n = l.length := h.len
  subst hn
  exact World.ownsRow.frozenAt (g := g) h j
theorem quiet_left {P : Program} {f : FuncId} {args : Array Value} {w : World} {n : Nat} {v : Value}
    (h : Hid (Calls P f args (w.drewN n) fun e w' => e = .returned v ∧ w.drewN n = w')) : Calls P f args (w.drewN n) fun e w' => e = .returned v ∧ ∃ m, w' = w.drewN m :=
  h.out.mono fun _ _ ⟨he, hm⟩ => ⟨he, n, hm.symm⟩
theorem Own.cut0 {E : TypeId} {w : World} {g n c : Nat} {l : List UInt8} (h : Own E w (.slice (some ⟨g, 0, none⟩) n c) l) : Own E w (.slice (some ⟨g, 0, none⟩) 0 c) [] := by
  refine ⟨rfl, .inr ?_⟩
  rcases h.2 with ⟨h', _⟩ | ⟨g', cap, cur, h', hb, hg, hnc, hcm, hcs, _⟩
  · cases h'
  · simp only [Value.slice.injEq, Option.some.injEq, Addr.mk.injEq, and_true] at h'
    obtain ⟨rfl, _, rfl⟩ := h'
    exact ⟨g, c, cur, rfl, hb, hg, Nat.zero_le _, hcm, hcs, by simp [u8s]⟩
theorem Own.zeros (E : TypeId) (w : World) (n : Nat) (hn : n ≤ maxLen) : Own E (w.alloc (.cells (zrow n) E)) (.slice (some ⟨w.heap.size, 0, none⟩) n n) (zeros n) := by
  have h := Own.lit E w (Go.Proofs.YtlkiaghpdjbfeaaGreatDoor.zeros n) (by simpa [Go.Proofs.YtlkiaghpdjbfeaaGreatDoor.zeros] using hn)
  rw [zeros_length] at h
  exact h

/-- The value's row, if it has one, is newer than the world a. -/
def NB (a : World) (v : Value) : Prop := ∀ k, v.ownBlock = some k → a.heap.size ≤ k
theorem NB.nil (a : World) : NB a (.slice none 0 0) := fun k h => by simp [Value.ownBlock] at h
theorem NB.new {a w : World} (h : a.heap.size ≤ w.heap.size) (n c : Nat) : NB a (.slice (some ⟨w.heap.size, 0, none⟩) n c) := fun k hk => by
  simp only [Value.ownBlock, Option.some.injEq] at hk
  omega
theorem NB.next {a w : World} {v v' : Value} (h : NB a v) (hs : a.heap.size ≤ w.heap.size) (hf : v'.ownBlock = v.ownBlock ∨ v'.ownBlock = some w.heap.size) : NB a v' := fun k hk => by
  rcases hf with hf | hf
  · exact h k (hf ▸ hk)
  · rw [hf] at hk
    injection hk with hk
    omega
theorem NB.older {a b : World} {v : Value} (h : NB b v) (hs : a.heap.size ≤ b.heap.size) : NB a v := fun k hk => Nat.le_trans hs (h k hk)
theorem Keep.own {S : Nat → Prop} {a w w' : World} {v : Value} (h : Keep S a w) (hg : w.grownBy w' v.ownBlock) (hv : NB a v) : Keep S a w' := h.grown hg fun k hk hlt => by
  have := hv k hk
  omega
theorem Rd.keepF {w w' : World} {B : Nat} {A : Option Addr} {l : List UInt8} (h : Rd w B A l) (hb : Keep (fun _ => False) w w') (hB : B ≤ w.heap.size) : Rd w' B A l := h.kept hb hB fun _ _ h => h

section
variable {P : Program} (w : World)
/-- append onto a row of bytes of the call's own, from whatever reads as bytes. -/
theorem run_append_u8 {T E : TypeId} (U : U8 P T E) (ty : TypeId) (v : Value) (l : List UInt8) (hown : Own E w v l) (B : Nat) (A : Option Addr) (c : Nat) (m : List UInt8) (n : Nat) (hn : n = m.length) (hr : Rd w B A m)
    (hb : l.length + m.length ≤ 70368744177664) :
    ∃ v' w', (Builtin.append_ #[T, T] ty #[v, .slice A n c]).run P w = .ok v' w' ∧ Own E w' v' (l ++ m) ∧ w.grownBy w' v.ownBlock ∧ (v'.ownBlock = v.ownBlock ∨ v'.ownBlock = some w.heap.size) := by
  subst hn
  obtain ⟨i, hi, hz, hs, hby⟩ := U.info
  rcases hm : A with _ | ad
  · have : m = [] := by
      rcases m with _ | ⟨b, m⟩
      · rfl
      · obtain ⟨a, h, _⟩ := hr 0 b rfl
        rw [hm] at h
        cases h
    subst this
    refine ⟨v, w, ?_, by simpa using hown, World.grownBy.refl w _, .inl rfl⟩
    rcases hown.2 with ⟨rfl, h0⟩ | ⟨g, cap, cur, rfl, _, _, hnc, _⟩
    · simp [Builtin.append_, run_underlying U.under, sizeOf, typeInfo, hi, Builtin.lenOf, Builtin.firstCells]
    · simp [Builtin.append_, run_underlying U.under, sizeOf, typeInfo, hi, Builtin.lenOf, Builtin.firstCells, hnc, storeCells]
  · subst hm
    have hcells : ∀ j u, (u8s m)[j]? = some u → w.cell? (ad.add j) = some u := by
      intro j u hu
      simp only [u8s, List.getElem?_map, Option.map_eq_some_iff] at hu
      obtain ⟨b, hb, rfl⟩ := hu
      obtain ⟨a, e, _, hc⟩ := hr j b hb
      injection e with e
      subst e
      exact hc
    obtain ⟨v', w', hrun, h2, h3, _, h5⟩ := run_append_own_at (P := P) w 0 T ty E i (.int .u8 0) 1 1 U.under hi hz hs hby rfl (by omega) v l.length (u8s l) hown ad m.length c (u8s m) (by simp [u8s]) hcells (u8s_one m) (by simp only [maxLen]; omega) (by omega) (Nat.zero_le _)
    exact ⟨v', w', hrun, by simpa [Own, u8s_append] using h2, h3, h5⟩

/-- 'append(nil, make([]byte, n)...)'. -/
theorem run_append_made {T E I : TypeId} (U : U8 P T E) (hI : P.underlying I = some (.int .i64)) (ty : TypeId) (n : Nat) (h0 : 0 < n) (hb : n ≤ 70368744177664) :
    ∃ cap w', (Builtin.append_ #[T, I] ty #[.slice none 0 0, .int .i64 (n : Int)]).run P w = .ok (.slice (some ⟨w.heap.size, 0, none⟩) n cap) w' ∧ Own E w' (.slice (some ⟨w.heap.size, 0, none⟩) n cap) (zeros n) ∧ n ≤ cap ∧ w.grownBy w' none := by
  obtain ⟨i, hi, hz, hs, hby⟩ := U.info
  have wl : IntKind.i64.wrap (n : Int) = n := by rw [IntKind.wrap_i64]; omega
  have n1 : ¬ (n : Int) < 0 := by omega
  have n2 : ¬ (281474976710656 < (n : Int)) := by omega
  have hn : n ≠ 0 := by omega
  have h63' : ¬ (9223372036854775807 < (n : Int)) := by omega
  have h48' : ¬ (281474976710656 < Builtin.nextslicecap n 0) := by rw [nextslicecap_zero h0]; omega
  have hge := grownCap_ge w n 0 E
  have hcm := grownCap_le_maxLen w n 0 E (by simp only [maxLen]; omega)
  have hzc : ∀ k, Builtin.zeroCells (Value.int .u8 0).cells k = zrow k := fun k => by
    apply Array.toList_inj.1
    apply List.ext_getElem?
    intro j
    by_cases hj : j < k <;> simp [Builtin.zeroCells, zrow, u8s, zeros, Value.cells, hj, Nat.mod_one]
  refine ⟨grownCap w n 0 E, w.drew.alloc (.cells (zrow n ++ zrow (grownCap w n 0 E - n)) E), ?_, ⟨by simp [u8s, zeros], .inr ⟨w.heap.size, _, _, by rw [zeros_length], Nat.zero_le _, heap_alloc_new w.drew _, by rw [zeros_length]; exact hge, hcm, ?_, ?_⟩⟩, hge, ⟨rfl, rfl, rfl, by simp, fun k hk _ => Below.heap_alloc w.drew _ k hk⟩⟩
  · simp [Builtin.append_, run_underlying U.under, run_underlying hI, sizeOf, typeInfo, zeroValue, hi, hz, hs, hby, Builtin.lenOf, asInt, asIntOf, wl, n1, n2, hn, h63', h48', Question.forced, run_firstCells_none, newRow, grownCap, hzc]
  · simp [zrow, u8s, zeros]
    omega
  · rw [zeros_length, Nat.mul_one, Array.toList_append]
    exact List.take_left' (by simp [zrow, u8s, zeros])

theorem wpList_append_made {ops : Array Oper} {rest : List Oper} {o : Oper} {a : Act} {Q : Exit → Act → World → Prop} (hgd : o.guard = none) (s x : Operand) (T I : TypeId)
    (ho : o.op = .call { callee := .builtin .append, args := #[s, x], argTypes := #[T, I] }) {E : TypeId} (U : U8 P T E) (hI : P.underlying I = some (.int .i64)) (n : Nat) (hs : a.eval s = .slice none 0 0) (hx : a.eval x = .int .i64 (n : Int)) (h0 : 0 < n) (hb : n ≤ 70368744177664)
    (h : ∀ cap w', Own E w' (.slice (some ⟨w.heap.size, 0, none⟩) n cap) (zeros n) → n ≤ cap → cap ≤ maxLen → w.grownBy w' none → wpList P ops Q rest (a.put o.dst (.slice (some ⟨w.heap.size, 0, none⟩) n cap)) w') : wpList P ops Q (o :: rest) a w := by
  refine wpList_plain hgd fun K hK => ?_
  obtain ⟨cap, w', hrun, h2, h3, h4⟩ := run_append_made (P := P) w U hI o.type n h0 hb
  have hm : cap ≤ maxLen := by
    obtain ⟨A', c', e, _, hm, _⟩ := h2.shape
    injection e with _ _ e
    omega
  unfold Oper.wp execOp
  simp only [ho, resolve, invoke, builtin, Sem.run_bind, Sem.run_pure, Result.andThen_ok, List.map_toArray, List.map_cons, List.map_nil, hs, hx, hrun]
  exact hK _ _ (h cap w' h2 h3 hm h4)

theorem wp_append_u8 {o : Oper} {a : Act} {K : Act → World → Prop} {Q : Exit → Act → World → Prop} (s x : Operand) (T : TypeId)
    (ho : o.op = .call { callee := .builtin .append, args := #[s, x], argTypes := #[T, T] }) {E : TypeId} (U : U8 P T E) (v : Value) (l : List UInt8) (hs : a.eval s = v) (hown : Own E w v l) (B : Nat) (A : Option Addr) (n c : Nat) (m : List UInt8)
    (hx : a.eval x = .slice A n c) (hn : n = m.length) (hr : Rd w B A m) (hb : l.length + m.length ≤ 70368744177664)
    (h : ∀ A' n' c' w', Own E w' (.slice A' n' c') (l ++ m) → Hid (n' = (l ++ m).length) → n' ≤ c' → c' ≤ maxLen → w.grownBy w' v.ownBlock → ((Value.slice A' n' c').ownBlock = v.ownBlock ∨ (Value.slice A' n' c').ownBlock = some w.heap.size) → K (a.put o.dst (.slice A' n' c')) w') : o.wp P a w K Q := by
  obtain ⟨v', w', hrun, h2, h3, h4⟩ := run_append_u8 (P := P) w U o.type v l hown B A c m n hn hr hb
  unfold Oper.wp execOp
  simp only [ho, resolve, invoke, builtin, Sem.run_bind, Sem.run_pure, Result.andThen_ok, List.map_toArray, List.map_cons, List.map_nil, hs, hx, hrun]
  obtain ⟨A', c', rfl, hle, hm, _, _⟩ := h2.shape
  exact h _ _ _ w' h2 rfl hle hm h3 h4

theorem wpList_append_u8 {ops : Array Oper} {rest : List Oper} {o : Oper} {a : Act} {Q : Exit → Act → World → Prop} (hgd : o.guard = none) (s x : Operand) (T : TypeId)
    (ho : o.op = .call { callee := .builtin .append, args := #[s, x], argTypes := #[T, T] }) {E : TypeId} (U : U8 P T E) (v : Value) (l : List UInt8) (hs : a.eval s = v) (hown : Own E w v l) (B : Nat) (A : Option Addr) (n c : Nat) (m : List UInt8)
    (hx : a.eval x = .slice A n c) (hn : n = m.length) (hr : Rd w B A m) (hb : l.length + m.length ≤ 70368744177664)
    (h : ∀ A' n' c' w', Own E w' (.slice A' n' c') (l ++ m) → Hid (n' = (l ++ m).length) → n' ≤ c' → c' ≤ maxLen → w.grownBy w' v.ownBlock → ((Value.slice A' n' c').ownBlock = v.ownBlock ∨ (Value.slice A' n' c').ownBlock = some w.heap.size) → wpList P ops Q rest (a.put o.dst (.slice A' n' c')) w') : wpList P ops Q (o :: rest) a w :=
  wpList_plain hgd fun _ hK => wp_append_u8 w s x T ho U v l hs hown B A n c m hx hn hr hb fun A' n' c' w' h2 h3 h4 h5 h6 h7 => hK _ _ (h A' n' c' w' h2 h3 h4 h5 h6 h7)

theorem step_append_u8 {ops : Array Oper} {o : Oper} {a : Act} {K : Act → World → Prop} {Q : Exit → Act → World → Prop} {N : Prop} (hgd : o.guard = none) (s x : Operand) (T : TypeId)
    (ho : o.op = .call { callee := .builtin .append, args := #[s, x], argTypes := #[T, T] }) {E : TypeId} (U : U8 P T E) (v : Value) (l : List UInt8) (hs : a.eval s = v) (hown : Own E w v l) (B : Nat) (A : Option Addr) (n c : Nat) (m : List UInt8)
    (hx : a.eval x = .slice A n c) (hn : n = m.length) (hr : Rd w B A m) (hb : l.length + m.length ≤ 70368744177664)
    (h : ∀ A' n' c' w', Own E w' (.slice A' n' c') (l ++ m) → Hid (n' = (l ++ m).length) → n' ≤ c' → c' ≤ maxLen → w.grownBy w' v.ownBlock → ((Value.slice A' n' c').ownBlock = v.ownBlock ∨ (Value.slice A' n' c').ownBlock = some w.heap.size) → K (a.put o.dst (.slice A' n' c')) w') : if Region.wanted o (yielded ops a.tmps) = true then Oper.wp P o a w K Q else N := by
  have hw : Region.wanted o (yielded ops a.tmps) = true := by simp [Region.wanted, hgd]
  rw [if_pos hw]
  exact wp_append_u8 w s x T ho U v l hs hown B A n c m hx hn hr hb h
end
end Go.Proofs.YtlkiaghpdjbfeaaGreatDoor

namespace Go.Proofs.YtlkiaghpdjbfeaaGreatDoor
open Go.Lib

/-- A text as the bytes that it is of. -/
abbrev Txt := List UInt8
/-- The string of bytes. -/
abbrev ba (l : Txt) : ByteArray := ⟨l.toArray⟩

def IsName (l : Txt) : Prop := (∀ b ∈ l, b ≠ 47 ∧ b ≠ 0) ∧ 1 ≤ l.length ∧ l.length ≤ 16 ∧ l ≠ [46] ∧ l ≠ [46, 46]
instance (l : Txt) : Decidable (IsName l) := by unfold IsName; infer_instance

/-- What stands between the slashes. -/
def pieces : Txt → List Txt
  | [] => [[]]
  | b :: r => if b = 47 then [] :: pieces r else match pieces r with | [] => [[b]] | p :: q => (b :: p) :: q

theorem pieces_ne (l : Txt) : pieces l ≠ [] := by
  cases l with
  | nil => simp [pieces]
  | cons b r =>
    unfold pieces
    split
    · simp
    · split <;> simp
theorem pieces_slash (r : Txt) : pieces (47 :: r) = [] :: pieces r := by simp [pieces]
theorem pieces_byte {b : UInt8} (h : b ≠ 47) {r p : Txt} {q : List Txt} (hr : pieces r = p :: q) : pieces (b :: r) = (b :: p) :: q := by
  rw [pieces, if_neg h, hr]
theorem pieces_whole : ∀ {l : Txt}, (∀ b ∈ l, b ≠ 47) → pieces l = [l]
  | [], _ => rfl
  | b :: r, h => pieces_byte (h b (by simp)) (pieces_whole fun c hc => h c (by simp [hc]))
theorem pieces_cut : ∀ {p : Txt} (_ : ∀ b ∈ p, b ≠ 47) (r : Txt), pieces (p ++ 47 :: r) = p :: pieces r
  | [], _, r => by simp [pieces]
  | b :: p, h, r => pieces_byte (h b (by simp)) (pieces_cut (fun c hc => h c (by simp [hc])) r)
theorem pieces_clean (l : Txt) : ∀ p ∈ pieces l, ∀ b ∈ p, b ≠ 47 := by
  induction l with
  | nil => simp [pieces]
  | cons c r ih =>
    intro p hp b hb
    by_cases h : c = 47
    · subst h
      rw [pieces_slash, List.mem_cons] at hp
      rcases hp with rfl | hp
      · cases hb
      · exact ih p hp b hb
    · obtain ⟨x, q, hr⟩ : ∃ x q, pieces r = x :: q := by
        cases hh : pieces r with
        | nil => exact absurd hh (pieces_ne r)
        | cons x q => exact ⟨x, q, rfl⟩
      rw [pieces_byte h hr, List.mem_cons] at hp
      rcases hp with rfl | hp
      · rw [List.mem_cons] at hb
        rcases hb with rfl | hb
        · exact h
        · exact ih x (by rw [hr]; simp) b hb
      · exact ih p (by rw [hr]; simp [hp]) b hb

/-- The names with a slash between. -/
abbrev joined (names : List Txt) : Txt := Lib.join names [47]
theorem joined_cons_cons (x y : Txt) (r : List Txt) : joined (x :: y :: r) = x ++ 47 :: joined (y :: r) := by
  simp only [joined, Lib.join_cons, Lib.joinTail, List.map_cons, List.flatten_cons, List.cons_append, List.nil_append]
theorem joined_pieces (l : Txt) : joined (pieces l) = l := by
  induction l with
  | nil => rfl
  | cons c r ih =>
    obtain ⟨x, q, hr⟩ : ∃ x q, pieces r = x :: q := by
      cases hh : pieces r with
      | nil => exact absurd hh (pieces_ne r)
      | cons x q => exact ⟨x, q, rfl⟩
    rw [hr] at ih
    by_cases h : c = 47
    · subst h
      rw [pieces_slash, hr, joined_cons_cons, ih]
      rfl
    · rw [pieces_byte h hr]
      cases q with
      | nil =>
        rw [joined, Lib.join_one] at ih ⊢
        rw [ih]
      | cons y q =>
        rw [joined_cons_cons] at ih ⊢
        rw [List.cons_append, ih]
theorem pieces_joined : ∀ {names : List Txt}, names ≠ [] → (∀ n ∈ names, ∀ b ∈ n, b ≠ 47) → pieces (joined names) = names
  | [], h, _ => absurd rfl h
  | [x], _, h => by rw [joined, Lib.join_one]; exact pieces_whole (h x (by simp))
  | x :: y :: r, _, h => by
    rw [joined_cons_cons, pieces_cut (h x (by simp)), pieces_joined (by simp) fun n hn => h n (List.mem_cons_of_mem x hn)]

/-- What a path has: its names; none, if it is no path. -/
def pathM : Txt → Option (List Txt)
  | [] => none
  | b :: r => if b ≠ 47 then none else if r = [] then some [] else if (pieces r).length ≤ 8 ∧ ∀ p ∈ pieces r, IsName p then some (pieces r) else none
/-- The path of names. -/
abbrev joinM (names : List Txt) : Txt := 47 :: joined names

theorem IsName.clean {n : Txt} (h : IsName n) : ∀ b ∈ n, b ≠ 47 := fun b hb => (h.1 b hb).1
theorem IsName.ne {n : Txt} (h : IsName n) : n ≠ [] := by rintro rfl; exact absurd h.2.1 (by simp)
theorem joined_ne : ∀ {names : List Txt}, names ≠ [] → (∀ n ∈ names, IsName n) → joined names ≠ []
  | [], h, _ => absurd rfl h
  | [x], _, h => by rw [joined, Lib.join_one]; exact (h x (by simp)).ne
  | x :: y :: r, _, h => by rw [joined_cons_cons]; simp
theorem pathM_joinM {names : List Txt} (h8 : names.length ≤ 8) (h : ∀ n ∈ names, IsName n) : pathM (joinM names) = some names := by
  cases names with
  | nil => rfl
  | cons x r =>
    have hp := pieces_joined (names := x :: r) (by simp) fun n hn => (h n hn).clean
    rw [joinM, pathM, if_neg (by simp), if_neg (joined_ne (by simp) h), hp, if_pos ⟨h8, h⟩]
theorem pathM_some {l : Txt} {names : List Txt} (h : pathM l = some names) : l = joinM names ∧ names.length ≤ 8 ∧ ∀ n ∈ names, IsName n := by
  cases l with
  | nil => cases h
  | cons b r =>
    rw [pathM] at h
    split at h
    · cases h
    · next hb =>
      rw [Decidable.not_not] at hb
      subst hb
      split at h
      · next hr =>
        subst hr
        injection h with h
        subst h
        exact ⟨rfl, by simp, by simp⟩
      · split at h
        · next hp =>
          injection h with h
          subst h
          exact ⟨by rw [joinM, joined_pieces], hp.1, hp.2⟩
        · cases h
theorem pathM_iff {l : Txt} {names : List Txt} : pathM l = some names ↔ l = joinM names ∧ names.length ≤ 8 ∧ ∀ n ∈ names, IsName n :=
  ⟨pathM_some, fun ⟨h, h8, hn⟩ => by rw [h]; exact pathM_joinM h8 hn⟩

/-- Does the one stand beneath the other? -/
def insideM (s o : Txt) : Bool := match pathM s, pathM o with
  | some a, some b => decide (b.length < a.length ∧ a.take b.length = b)
  | _, _ => false
theorem insideM_self (s : Txt) : insideM s s = false := by
  unfold insideM
  split
  · next a b h h' =>
    rw [h] at h'
    injection h' with h'
    subst h'
    simp
  · rfl
theorem insideM_some {s o : Txt} {a b : List Txt} (hs : pathM s = some a) (ho : pathM o = some b) : insideM s o = decide (b.length < a.length ∧ a.take b.length = b) := by
  unfold insideM; rw [hs, ho]
theorem insideM_none {s o : Txt} (h : pathM s = none ∨ pathM o = none) : insideM s o = false := by
  unfold insideM
  rcases h with h | h
  · rw [h]
  · rw [h]; cases pathM s <;> rfl
theorem pathM_above {s : Txt} {ps : List Txt} {p : Txt} (h : pathM s = some (ps ++ [p])) : pathM (joinM ps) = some ps := by
  obtain ⟨_, h8, hn⟩ := pathM_some h
  exact pathM_joinM (by simp at h8; omega) fun n hn' => hn n (by simp [hn'])
theorem insideM_above {s : Txt} {ps : List Txt} {p : Txt} (h : pathM s = some (ps ++ [p])) : insideM s (joinM ps) = true := by
  rw [insideM_some h (pathM_above h)]
  simp
theorem insideM_through {s o : Txt} {ps : List Txt} {p : Txt} (h : pathM s = some (ps ++ [p])) (hi : insideM (joinM ps) o = true) : insideM s o = true := by
  cases ho : pathM o with
  | none => rw [insideM_none (Or.inr ho)] at hi; cases hi
  | some b =>
    rw [insideM_some (pathM_above h) ho] at hi
    rw [insideM_some h ho]
    have hi := of_decide_eq_true hi
    refine decide_eq_true ⟨by simp; omega, ?_⟩
    rw [List.take_append_of_le_length (by omega)]
    exact hi.2

/-- A slash's place in a text. -/
theorem slash_spec (s : Txt) : (index s [47] = -1 ∧ ∀ b ∈ s, b ≠ 47) ∨ ∃ p r, s = p ++ 47 :: r ∧ (∀ b ∈ p, b ≠ 47) ∧ index s [47] = (p.length : Int) := by
  have occ : ∀ j, j < s.length → s[j]? ≠ some 47 → occAt s [47] j = false := fun j hj hn => by
    cases h : occAt s [47] j with
    | false => rfl
    | true => exact absurd (occAt_head rfl h) hn
  rcases index_spec s [47] with ⟨h, hn⟩ | ⟨i, h, hi, ho, hf⟩
  · refine Or.inl ⟨h, fun b hb e => ?_⟩
    subst e
    obtain ⟨j, hj, hj'⟩ := List.mem_iff_getElem.1 hb
    have := hn j (by omega)
    rw [occAt_iff_take s [47] j (by simp; omega)] at this
    rw [List.drop_eq_getElem_cons hj, hj'] at this
    simp at this
  · have h47 : s[i]? = some 47 := occAt_head rfl ho
    have hlt : i < s.length := by
      rcases Nat.lt_or_ge i s.length with h' | h'
      · exact h'
      · rw [List.getElem?_eq_none h'] at h47; cases h47
    refine Or.inr ⟨s.take i, s.drop (i + 1), ?_, ?_, ?_⟩
    · rw [List.getElem?_eq_getElem hlt] at h47
      injection h47 with h47
      rw [← h47, ← List.drop_eq_getElem_cons hlt, List.take_append_drop]
    · intro b hb e
      subst e
      obtain ⟨j, hj, hj'⟩ := List.mem_iff_getElem.1 hb
      have hj2 : j < i := by simp at hj; omega
      have := hf j hj2
      rw [occAt_iff_take s [47] j (by simp; omega)] at this
      rw [List.drop_eq_getElem_cons (by omega)] at this
      rw [List.getElem_take] at hj'
      rw [hj'] at this
      simp at this
    · rw [h]; simp; omega

/-- Cut at no more slashes than k: all pieces, if there are no more; else one more than k. -/
theorem splitK_pieces : ∀ (k : Nat) (s : Txt), ((pieces s).length ≤ k + 1 → splitK [47] 0 k s = pieces s) ∧ (k + 1 < (pieces s).length → (splitK [47] 0 k s).length = k + 1)
  | 0, s => by
    refine ⟨fun h => ?_, fun _ => rfl⟩
    match hp : pieces s with
    | [] => exact absurd hp (pieces_ne s)
    | [p] =>
      have := joined_pieces s
      rw [hp, joined, Lib.join_one] at this
      rw [splitK, this]
    | p :: q :: r => rw [hp] at h; simp at h
  | k + 1, s => by
    rcases slash_spec s with ⟨h, hn⟩ | ⟨p, r, rfl, hp, h⟩
    · have hs := pieces_whole hn
      rw [hs, splitK, h]
      exact ⟨fun _ => rfl, fun h' => by simp at h'⟩
    · have hs := pieces_cut hp r
      have hne : ¬ ((p.length : Int) == -1) = true := fun e => by have := beq_iff_eq.1 e; omega
      rw [hs, splitK, h, if_neg hne]
      have e1 : ((p.length : Int)).toNat = p.length := by omega
      rw [e1]
      have e3 : (p ++ 47 :: r).take (p.length + 0) = p := by simp
      rw [e3]
      have e2 : (p ++ 47 :: r).drop (p.length + [(47 : UInt8)].length) = r := by
        rw [List.drop_append]
        simp
      rw [e2]
      obtain ⟨i1, i2⟩ := splitK_pieces k r
      simp only [List.length_cons]
      exact ⟨fun h' => by rw [i1 (by omega)], fun h' => by rw [i2 (by omega)]⟩
theorem pieces_length_le (l : Txt) : (pieces l).length ≤ l.length + 1 := by
  induction l with
  | nil => simp [pieces]
  | cons c r ih =>
    by_cases h : c = 47
    · subst h; rw [pieces_slash]; simp; omega
    · obtain ⟨x, q, hr⟩ : ∃ x q, pieces r = x :: q := by
        cases hh : pieces r with
        | nil => exact absurd hh (pieces_ne r)
        | cons x q => exact ⟨x, q, rfl⟩
      rw [pieces_byte h hr]
      rw [hr] at ih
      simp at ih ⊢; omega
/-- What strings.SplitN gives of a text, at most nine. -/
theorem split9 (s : Txt) : let q := splitK [47] 0 (min 9 (s.length + 1) - 1) s
    ((pieces s).length ≤ 8 → q = pieces s) ∧ (8 < (pieces s).length → q.length = 9) := by
  have hl := pieces_length_le s
  obtain ⟨h1, h2⟩ := splitK_pieces (min 9 (s.length + 1) - 1) s
  refine ⟨fun h => h1 (by omega), fun h => ?_⟩
  rcases Nat.lt_or_ge 9 (pieces s).length with h' | h'
  · have e : min 9 (s.length + 1) - 1 = 8 := by omega
    rw [e] at h1 h2 ⊢
    exact h2 (by omega)
  · have e : min 9 (s.length + 1) - 1 = 8 := by omega
    rw [e] at h1 h2 ⊢
    rw [h1 (by omega)]
    omega
end Go.Proofs.YtlkiaghpdjbfeaaGreatDoor

namespace Go.Proofs.YtlkiaghpdjbfeaaGreatDoor
open Go.RowKit

/-- Whatever was there is as it was. -/
abbrev KF (a w : World) : Prop := Keep (fun _ => False) a w
section
variable {a b c w : World}
theorem KF.refl (a : World) : KF a a := Keep.refl _ a
theorem KF.trans (h : KF a b) (k : KF b c) : KF a c := Keep.trans h k fun _ _ h => h
theorem KF.of_below (h : Below a.heap.size a w) : KF a w := Keep.of_below h _
theorem KF.below (h : KF a w) : Below a.heap.size a w := Keep.below h (Nat.le_refl _) fun _ _ h => h
theorem KF.cell (h : KF a w) {p : Addr} (hp : p.block < a.heap.size) : w.cell? p = a.cell? p := Keep.cell h hp fun h => h
end

/-- From the address A on, in blocks below B, the cells hold the texts xs. -/
def Strs (w : World) (B : Nat) (A : Option Addr) (xs : List ByteArray) : Prop :=
  ∀ j x, xs[j]? = some x → ∃ b o, A = some ⟨b, o, none⟩ ∧ b < B ∧ w.cell? ⟨b, o + j, none⟩ = some (.string x)
section
variable {w w' : World} {A : Option Addr} {xs : List ByteArray} {B B' : Nat}
theorem Strs.nil : Strs w B A [] := fun j x h => by simp at h
theorem Strs.keep (h : Strs w B A xs) (hB : B ≤ w.heap.size) (k : KF w w') : Strs w' B A xs := fun j x hj => by
  obtain ⟨b, o, rfl, hb, hc⟩ := h j x hj
  exact ⟨b, o, rfl, hb, (k.cell (by show b < _; omega)).trans hc⟩
theorem Strs.more (h : Strs w B A xs) (hB : B ≤ B') : Strs w B' A xs := fun j x hj => by
  obtain ⟨b, o, rfl, hb, hc⟩ := h j x hj
  exact ⟨b, o, rfl, by omega, hc⟩
theorem Strs.kept (h : Strs w w.heap.size A xs) (k : KF w w') : Strs w' w'.heap.size A xs := (h.keep (Nat.le_refl _) k).more k.size
theorem Strs.take (h : Strs w B A xs) (n : Nat) : Strs w B A (xs.take n) := fun j x hj => h j x (by
  rw [List.getElem?_take] at hj
  split at hj
  · exact hj
  · cases hj)
theorem Strs.drew (h : Strs w B A xs) : Strs w.drew B A xs := h
theorem Strs.drewN (h : Strs w B A xs) (n : Nat) : Strs (w.drewN n) B A xs := h
theorem Strs.head (h : Strs w B A xs) (hn : 0 < xs.length) : ∃ b o, A = some ⟨b, o, none⟩ ∧ b < B := by
  obtain ⟨b, o, rfl, hb, _⟩ := h 0 _ (List.getElem?_eq_getElem hn)
  exact ⟨b, o, rfl, hb⟩
theorem Strs.at_ {b o : Nat} (h : Strs w B (some ⟨b, o, none⟩) xs) {j : Nat} {x : ByteArray} (hj : xs[j]? = some x) : w.cell? ⟨b, o + j, none⟩ = some (.string x) := by
  obtain ⟨b', o', e, _, hc⟩ := h j x hj
  injection e with e
  injection e with e1 e2
  subst e1 e2
  exact hc
end
theorem ba_data (x : ByteArray) : ba x.data.toList = x := by cases x; rfl
theorem ba_inj {l m : Txt} (h : ba l = ba m) : l = m := by
  have := congrArg (fun b => b.data.toList) h
  simpa using this
theorem ba_ext {x y : ByteArray} : x.data.toList = y.data.toList ↔ x = y :=
  ⟨fun h => by rw [← ba_data x, ← ba_data y, h], fun h => by rw [h]⟩
theorem ba_size (l : Txt) : (ba l).size = l.length := by simp [ByteArray.size]
theorem size_len (x : ByteArray) : x.size = x.data.toList.length := Lib.size_eq x
end Go.Proofs.YtlkiaghpdjbfeaaGreatDoor

namespace Go.Proofs.YtlkiaghpdjbfeaaGreatDoor
open Go.RowKit Go.Maps

abbrev VD := DataW Value
/-- Any element reads as itself. -/
def anyElem (v : Value) : Option (VD × List MemPlace) := some (.held v, [])
/-- The datum D has just what f gives. -/
def Tells (P : Program) (K : TypeId) (D : VD) (f : Lit → Option Value) : Prop :=
  ∀ v kl, keyOf P K v = some kl → Maps.has D kl = (f kl).isSome ∧ ∀ z, D.atKey kl (.held z) = .held ((f kl).getD z)
/-- Block b is a map that has just what f gives, n entries at most. -/
def MapV (P : Program) (K : TypeId) (w : World) (b n : Nat) (f : Lit → Option Value) : Prop :=
  ∃ D : VD, w.ownsMap P K anyElem b n D ∧ Tells P K D f
open Classical in
/-- f, but for a key. -/
noncomputable def upd (f : Lit → Option Value) (k : Lit) (v : Option Value) : Lit → Option Value := fun x => if x = k then v else f x
theorem upd_same (f : Lit → Option Value) (k : Lit) (v : Option Value) : upd f k v k = v := if_pos rfl
theorem upd_other (f : Lit → Option Value) {k x : Lit} (h : x ≠ k) (v : Option Value) : upd f k v x = f x := if_neg h

section
variable {P : Program} {K : TypeId} {w w' : World} {b n : Nat} {f : Lit → Option Value}
theorem MapV.lt (h : MapV P K w b n f) : b < w.heap.size := by obtain ⟨D, h, _⟩ := h; exact h.lt
theorem MapV.mono (h : MapV P K w b n f) {n' : Nat} (hn : n ≤ n') : MapV P K w b n' f := by obtain ⟨D, h, ht⟩ := h; exact ⟨D, h.mono hn, ht⟩
theorem MapV.kept {S : Nat → Prop} (h : MapV P K w b n f) (k : Keep S w w') (hn : ¬ S b) : MapV P K w' b n f := by
  obtain ⟨D, h, ht⟩ := h
  have hlt := h.lt
  obtain ⟨es, clock, hb, F, hs, hD⟩ := h
  exact ⟨D, ⟨es, clock, (k.block b hlt hn).trans hb, F, hs, hD⟩, ht⟩
theorem MapV.congr (h : MapV P K w b n f) {g : Lit → Option Value} (hg : ∀ v kl, keyOf P K v = some kl → f kl = g kl) : MapV P K w b n g := by
  obtain ⟨D, h, ht⟩ := h
  exact ⟨D, h, fun v kl hk => by rw [← hg v kl hk]; exact ht v kl hk⟩
theorem MapV.made (P : Program) (K : TypeId) (w : World) : MapV P K (w.alloc (.map #[] 0)) w.heap.size 0 fun _ => none :=
  ⟨.map [], World.ownsMap_made w P K anyElem, fun _v _kl _ => ⟨rfl, fun _z => rfl⟩⟩
theorem MapV.heap (h : MapV P K w b n f) : ∃ es clock, w.heap[b]? = some (.map es clock) := by
  obtain ⟨D, ⟨es, clock, hb, _⟩, _⟩ := h
  exact ⟨es, clock, hb⟩
theorem MapV.look {t e : TypeId} (h : MapV P K w b n f) (law : Keyed P K) (ht : P.underlying t = some (.map K e)) {z : Value} (hz : (zeroValue e).run P w = .ok z w) {key : Value} {kl : Lit} (hkey : keyOf P K key = some kl) :
    (Instr.lookup t (.map (some b)) key false).run P w = .ok ((f kl).getD z) w := by
  obtain ⟨D, h, hT⟩ := h
  obtain ⟨v, ps, hrun, hv⟩ := h.lookup law ht hz (zd := .held z) (zp := []) rfl hkey
  rw [(hT key kl hkey).2 z] at hv
  simp only [anyElem, Option.some.injEq, Prod.mk.injEq, DataW.held.injEq] at hv
  rw [hrun, hv.1]
theorem MapV.look_ok {t e : TypeId} (h : MapV P K w b n f) (law : Keyed P K) (ht : P.underlying t = some (.map K e)) {z : Value} (hz : (zeroValue e).run P w = .ok z w) {key : Value} {kl : Lit} (hkey : keyOf P K key = some kl) :
    (Instr.lookup t (.map (some b)) key true).run P w = .ok (.tuple #[(f kl).getD z, .bool (f kl).isSome]) w := by
  obtain ⟨D, h, hT⟩ := h
  obtain ⟨v, ps, hrun, hv⟩ := h.look_ok law ht hz (zd := .held z) (zp := []) rfl hkey
  rw [(hT key kl hkey).2 z] at hv
  simp only [anyElem, Option.some.injEq, Prod.mk.injEq, DataW.held.injEq] at hv
  rw [hrun, hv.1, (hT key kl hkey).1]
theorem Tells.put {D : VD} (hT : Tells P K D f) (hD : IsMap D) (law : Keyed P K) {key : Value} {kl : Lit} (hkey : keyOf P K key = some kl) (v : Value) : Tells P K (D.put kl (.held v)) (upd f kl (some v)) := fun x xl hx => by
  by_cases e : xl = kl
  · subst e
    rw [upd_same]
    exact ⟨has_put_same hD (law.key hkey) _, fun z => atKey_put_same hD (law.key hkey) _ _⟩
  · rw [upd_other f e]
    exact ⟨(has_put_other e _).trans (hT x xl hx).1, fun z => (atKey_put_other e _ _).trans ((hT x xl hx).2 z)⟩
theorem Tells.del {D : VD} (hT : Tells P K D f) {kl : Lit} : Tells P K (D.del kl) (upd f kl none) := fun x xl hx => by
  by_cases e : xl = kl
  · subst e
    rw [upd_same]
    exact ⟨has_del_same, fun z => atKey_del_same _⟩
  · rw [upd_other f e]
    exact ⟨(has_del_other e).trans (hT x xl hx).1, fun z => (atKey_del_other e _).trans ((hT x xl hx).2 z)⟩
theorem MapV.store {t e : TypeId} (h : MapV P K w b n f) (law : Keyed P K) (ht : P.underlying t = some (.map K e)) (hn : n < maxLen) {key val : Value} {kl : Lit} (hkey : keyOf P K key = some kl) :
    ∃ w', (Instr.mapUpdate t (.map (some b)) key val).run P w = .ok () w' ∧ MapV P K w' b (n + 1) (upd f kl (some val)) ∧ w.mapTurned w' b := by
  obtain ⟨D, h, hT⟩ := h
  obtain ⟨w', hrun, h', ht'⟩ := h.store law ht hn hkey (val := val) (d := .held val) (ps := []) rfl
  exact ⟨w', hrun, ⟨_, h', hT.put h.isMap law hkey val⟩, ht'⟩
theorem MapV.drop {t e : TypeId} (h : MapV P K w b n f) (law : Keyed P K) (ht : P.underlying t = some (.map K e)) {key : Value} {kl : Lit} (hkey : keyOf P K key = some kl) (ty : TypeId) :
    ∃ w', (Builtin.delete_ #[t, K] ty #[.map (some b), key]).run P w = .ok (.tuple #[]) w' ∧ MapV P K w' b n (upd f kl none) ∧ w.mapTurned w' b := by
  obtain ⟨D, h, hT⟩ := h
  obtain ⟨w', hrun, h', ht'⟩ := h.drop law ht hkey ty
  exact ⟨w', hrun, ⟨_, h', hT.del⟩, ht'⟩
/-- A map whose keys are texts: how many entries it has, and its keys. -/
theorem MapV.strs {xs : List (List UInt8)} (h : MapV P K w b n f) (law : Keyed P K) (hk : P.underlying K = some .string) (hnd : xs.Nodup) (hx : ∀ x ∈ xs, x.length ≤ maxLen) (hf : ∀ x : List UInt8, x.length ≤ maxLen → (x ∈ xs ↔ (f (.string x)).isSome = true)) :
    ∃ D : VD, w.ownsMap P K anyElem b n D ∧ xs.Perm (strKeys D) ∧ Maps.size D = xs.length := by
  obtain ⟨D, h, hT⟩ := h
  obtain ⟨es, hD, hpw, _⟩ := h.entries law
  obtain ⟨es', hD', hko⟩ := h.keysOf
  obtain rfl : es = es' := by rw [hD] at hD'; simpa using hD'
  subst hD
  have hp : xs.Perm (strKeys (.map es)) := by
    refine perm_strKeys hpw (fun p hp => by obtain ⟨v, hv⟩ := hko p hp; obtain ⟨x, _, hx, _⟩ := Maps.keyOf_str hk hv; exact ⟨x, hx⟩) hnd fun x => ?_
    by_cases hl : x.length ≤ maxLen
    · rw [(hT (.string (ba x)) (.string x) (Go.WideMaps.keyOf_string_mk hk (by rw [ba_size]; exact hl))).1]
      exact hf x hl
    · constructor
      · intro hxs; exact absurd (hx x hxs) hl
      · intro hh
        rw [has_eq, List.any_eq_true] at hh
        obtain ⟨p, hp, hs⟩ := hh
        obtain ⟨v, hv⟩ := hko p hp
        obtain ⟨y, _, hy, hyl⟩ := Maps.keyOf_str hk hv
        rw [hy] at hs
        have : y = x := by simpa [Lit.sameKey] using hs
        exact absurd (this ▸ hyl) hl
  refine ⟨_, h, hp, ?_⟩
  rw [hp.length_eq]
  simp [Maps.size, strKeys]
theorem MapV.len_strs {t e : TypeId} {xs : List (List UInt8)} (h : MapV P K w b n f) (law : Keyed P K) (hk : P.underlying K = some .string) (ht : P.underlying t = some (.map K e)) (hnd : xs.Nodup) (hx : ∀ x ∈ xs, x.length ≤ maxLen) (hf : ∀ x : List UInt8, x.length ≤ maxLen → (x ∈ xs ↔ (f (.string x)).isSome = true)) (ty : TypeId) :
    (Builtin.len_ #[t] ty #[.map (some b)]).run P w = .ok (.int .i64 (xs.length : Int)) w := by
  obtain ⟨D, hD, _, hs⟩ := h.strs law hk hnd hx hf
  rw [hD.len ht ty, hs]
/-- A map whose keys are numbers. -/
theorem MapV.ints {xs : List Int} (h : MapV P K w b n f) (law : Keyed P K) (hk : P.underlying K = some (.int .i64)) (hnd : xs.Nodup) (hx : ∀ x ∈ xs, (Lit.int .i64 x).wf = true) (hf : ∀ x : Int, (Lit.int .i64 x).wf = true → (x ∈ xs ↔ (f (.int .i64 x)).isSome = true)) :
    ∃ D : VD, w.ownsMap P K anyElem b n D ∧ xs.Perm (intKeys D) ∧ Maps.size D = xs.length := by
  obtain ⟨D, h, hT⟩ := h
  obtain ⟨es, hD, hpw, _⟩ := h.entries law
  obtain ⟨es', hD', hko⟩ := h.keysOf
  obtain rfl : es = es' := by rw [hD] at hD'; simpa using hD'
  subst hD
  have hp : xs.Perm (intKeys (.map es)) := by
    refine perm_intKeys hpw (fun p hp => by obtain ⟨v, hv⟩ := hko p hp; obtain ⟨x, _, hx, _⟩ := Maps.keyOf_i64 hk hv; exact ⟨x, hx⟩) hnd fun x => ?_
    by_cases hl : (Lit.int .i64 x).wf = true
    · rw [(hT (.int .i64 x) (.int .i64 x) (keyOf_int_mk hk hl)).1]
      exact hf x hl
    · constructor
      · intro hxs; exact absurd (hx x hxs) hl
      · intro hh
        rw [has_eq, List.any_eq_true] at hh
        obtain ⟨p, hp, hs⟩ := hh
        obtain ⟨v, hv⟩ := hko p hp
        obtain ⟨y, _, hy, hyl⟩ := Maps.keyOf_i64 hk hv
        rw [hy] at hs
        have : y = x := by simpa [Lit.sameKey] using hs
        exact absurd (this ▸ hyl) hl
  refine ⟨_, h, hp, ?_⟩
  rw [hp.length_eq]
  simp [Maps.size, intKeys]
theorem MapV.len_ints {t e : TypeId} {xs : List Int} (h : MapV P K w b n f) (law : Keyed P K) (hk : P.underlying K = some (.int .i64)) (ht : P.underlying t = some (.map K e)) (hnd : xs.Nodup) (hx : ∀ x ∈ xs, (Lit.int .i64 x).wf = true) (hf : ∀ x : Int, (Lit.int .i64 x).wf = true → (x ∈ xs ↔ (f (.int .i64 x)).isSome = true)) (ty : TypeId) :
    (Builtin.len_ #[t] ty #[.map (some b)]).run P w = .ok (.int .i64 (xs.length : Int)) w := by
  obtain ⟨D, hD, _, hs⟩ := h.ints law hk hnd hx hf
  rw [hD.len ht ty, hs]
theorem Keep.turned (h : w.mapTurned w' b) : Keep (fun k => k = b) w w' :=
  (Keep.of_grown h.grown).mono fun i _ hi => by injection hi with hi; exact hi.symm
end
end Go.Proofs.YtlkiaghpdjbfeaaGreatDoor

namespace Go.Proofs.YtlkiaghpdjbfeaaGreatDoor

/-- Texts, by their bytes. -/
abbrev less (a b : Txt) : Bool := Go.Op.bytesLess a b
theorem less_irrefl : ∀ a : Txt, less a a = false
  | [] => rfl
  | b :: r => by
    show (decide (b < b) || (b == b && less r r)) = false
    rw [less_irrefl r]
    simp
theorem less_trans : ∀ {a b c : Txt}, less a b = true → less b c = true → less a c = true
  | a, [], _, h, _ => by
    have e : less a [] = false := by cases a <;> rfl
    rw [e] at h
    cases h
  | _, _ :: _, [], _, h => by cases h
  | [], _ :: _, _ :: _, _, _ => rfl
  | x :: a, y :: b, z :: c, h, k => by
    have h' : (decide (x < y) || (x == y && less a b)) = true := h
    have k' : (decide (y < z) || (y == z && less b c)) = true := k
    show (decide (x < z) || (x == z && less a c)) = true
    simp only [Bool.or_eq_true, decide_eq_true_eq, Bool.and_eq_true, beq_iff_eq] at h' k' ⊢
    rcases h' with h' | ⟨rfl, h'⟩
    · rcases k' with k' | ⟨rfl, _⟩
      · exact Or.inl (UInt8.lt_trans h' k')
      · exact Or.inl h'
    · rcases k' with k' | ⟨rfl, k'⟩
      · exact Or.inl k'
      · exact Or.inr ⟨rfl, less_trans h' k'⟩
theorem less_total : ∀ {a b : Txt}, a ≠ b → less a b = false → less b a = true
  | [], [], h, _ => absurd rfl h
  | [], _ :: _, _, h => by cases h
  | _ :: _, [], _, _ => rfl
  | x :: a, y :: b, h, k => by
    have k' : (decide (x < y) || (x == y && less a b)) = false := k
    show (decide (y < x) || (y == x && less b a)) = true
    simp only [Bool.or_eq_false_iff, decide_eq_false_iff_not, Bool.and_eq_false_iff, beq_eq_false_iff_ne] at k'
    simp only [Bool.or_eq_true, decide_eq_true_eq, Bool.and_eq_true, beq_iff_eq]
    by_cases hxy : x = y
    · subst hxy
      refine Or.inr ⟨rfl, less_total (fun e => h (by rw [e])) ?_⟩
      rcases k'.2 with k2 | k2
      · exact absurd rfl k2
      · exact k2
    · refine Or.inl ?_
      have h1 := k'.1
      rw [UInt8.not_lt] at h1
      exact UInt8.lt_of_le_of_ne h1 (fun e => hxy e.symm)
theorem less_ne {a b : Txt} (h : less a b = true) : a ≠ b := by
  rintro rfl
  rw [less_irrefl] at h
  cases h
theorem less_asymm {a b : Txt} (h : less a b = true) : less b a = false := by
  cases k : less b a
  · rfl
  · have := less_trans h k
    rw [less_irrefl] at this
    cases this

abbrev Row := List (Txt × Nat)
/-- The node of a name. -/
def look : Row → Txt → Option Nat
  | [], _ => none
  | e :: r, x => if e.1 = x then some e.2 else look r x
/-- An entry more, at its place. -/
def put (es : Row) (x : Txt) (k : Nat) : Row := es.takeWhile (fun e => less e.1 x) ++ (x, k) :: es.dropWhile (fun e => less e.1 x)
/-- An entry less. -/
def drop (es : Row) (x : Txt) : Row := es.filter fun e => decide (e.1 ≠ x)
/-- Names rise. -/
def Rising (es : Row) : Prop := es.Pairwise fun a b => less a.1 b.1 = true
/-- How many entries are of a node. -/
def refs (es : Row) (n : Nat) : Nat := es.countP fun e => decide (e.2 = n)

theorem look_append (a b : Row) (x : Txt) : look (a ++ b) x = match look a x with | some k => some k | none => look b x := by
  induction a with
  | nil => rfl
  | cons e r ih =>
    rw [List.cons_append, look, look]
    split
    · rfl
    · exact ih
theorem look_none {es : Row} {x : Txt} : look es x = none ↔ ∀ e ∈ es, e.1 ≠ x := by
  induction es with
  | nil => simp [look]
  | cons e r ih =>
    rw [look]
    split
    · next h => exact ⟨fun h' => (by cases h'), fun h' => absurd h (h' e (by simp))⟩
    · next h =>
      rw [ih]
      constructor
      · intro h' e' he'
        rcases List.mem_cons.1 he' with rfl | he'
        · exact h
        · exact h' e' he'
      · exact fun h' e' he' => h' e' (by simp [he'])
theorem look_mem {es : Row} {x : Txt} {k : Nat} (h : look es x = some k) : (x, k) ∈ es := by
  induction es with
  | nil => cases h
  | cons e r ih =>
    rw [look] at h
    split at h
    · next he =>
      injection h with h
      subst he h
      simp
    · exact List.mem_cons_of_mem _ (ih h)
theorem look_of_mem {es : Row} (hs : Rising es) {x : Txt} {k : Nat} (h : (x, k) ∈ es) : look es x = some k := by
  induction es with
  | nil => cases h
  | cons e r ih =>
    rw [look]
    rcases List.mem_cons.1 h with rfl | h
    · rw [if_pos rfl]
    · have h1 := (List.pairwise_cons.1 hs).1 _ h
      rw [if_neg (less_ne h1), ih (List.pairwise_cons.1 hs).2 h]

theorem takeWhile_less {es : Row} {x : Txt} : ∀ e ∈ es.takeWhile (fun e => less e.1 x), less e.1 x = true := by
  induction es with
  | nil => simp
  | cons a r ih =>
    rw [List.takeWhile_cons]
    split
    · intro e he
      rcases List.mem_cons.1 he with rfl | he
      · assumption
      · exact ih e he
    · simp
theorem split_less (es : Row) (x : Txt) : es.takeWhile (fun e => less e.1 x) ++ es.dropWhile (fun e => less e.1 x) = es := List.takeWhile_append_dropWhile
theorem look_put (es : Row) (x y : Txt) (k : Nat) : look (put es x k) y = if y = x then some k else look es y := by
  unfold put
  rw [look_append, look]
  have h1 : look es y = match look (es.takeWhile fun e => less e.1 x) y with | some k => some k | none => look (es.dropWhile fun e => less e.1 x) y := by
    rw [← look_append, split_less]
  by_cases hy : y = x
  · subst hy
    rw [if_pos rfl, if_pos rfl, look_none.2 fun e he => less_ne (takeWhile_less e he)]
  · rw [if_neg hy, if_neg (fun e => hy e.symm), ← h1]
theorem look_drop (es : Row) (x y : Txt) : look (drop es x) y = if y = x then none else look es y := by
  induction es with
  | nil => simp [drop, look]
  | cons e r ih =>
    unfold drop at ih ⊢
    rw [List.filter_cons]
    by_cases he : e.1 = x
    · rw [if_neg (by simp [he]), ih]
      by_cases hy : y = x
      · rw [if_pos hy, if_pos hy]
      · rw [if_neg hy, if_neg hy, look, if_neg (fun h => hy (h.symm.trans he))]
    · rw [if_pos (by simp [he]), look, look, ih]
      by_cases hy : y = x
      · subst hy
        rw [if_neg he, if_pos rfl, if_pos rfl]
      · rw [if_neg hy, if_neg hy]

/-- Behind its place there stand greater names alone. -/
theorem dropWhile_more {es : Row} (hs : Rising es) {x : Txt} (hx : look es x = none) : ∀ e ∈ es.dropWhile (fun e => less e.1 x), less x e.1 = true := by
  induction es with
  | nil => simp
  | cons a r ih =>
    have hn := look_none.1 hx
    obtain ⟨h1, h2⟩ := List.pairwise_cons.1 hs
    rw [List.dropWhile_cons]
    split
    · exact ih h2 (look_none.2 fun e he => hn e (by simp [he]))
    · next hl =>
      have hax : less x a.1 = true := less_total (hn a (by simp)) (by simpa using hl)
      intro e he
      rcases List.mem_cons.1 he with rfl | he
      · exact hax
      · exact less_trans hax (h1 e he)
theorem put_rising {es : Row} (hs : Rising es) {x : Txt} (hx : look es x = none) (k : Nat) : Rising (put es x k) := by
  unfold put Rising
  have hsp : Rising (es.takeWhile (fun e => less e.1 x) ++ es.dropWhile fun e => less e.1 x) := by rw [split_less]; exact hs
  obtain ⟨p1, p2, p3⟩ := List.pairwise_append.1 hsp
  rw [List.pairwise_append, List.pairwise_cons]
  refine ⟨p1, ⟨fun e he => dropWhile_more hs hx e he, p2⟩, fun a ha b hb => ?_⟩
  rcases List.mem_cons.1 hb with rfl | hb
  · exact takeWhile_less a ha
  · exact p3 a ha b hb
theorem drop_rising {es : Row} (hs : Rising es) (x : Txt) : Rising (drop es x) := List.Pairwise.filter _ hs
theorem mem_put {es : Row} {x : Txt} {k : Nat} {e : Txt × Nat} : e ∈ put es x k ↔ e = (x, k) ∨ e ∈ es := by
  unfold put
  rw [List.mem_append, List.mem_cons]
  have : e ∈ es ↔ e ∈ es.takeWhile (fun e => less e.1 x) ∨ e ∈ es.dropWhile (fun e => less e.1 x) := by
    rw [← List.mem_append, split_less]
  rw [this]
  constructor
  · rintro (h | h | h)
    · exact Or.inr (Or.inl h)
    · exact Or.inl h
    · exact Or.inr (Or.inr h)
  · rintro (h | h | h)
    · exact Or.inr (Or.inl h)
    · exact Or.inl h
    · exact Or.inr (Or.inr h)
theorem mem_drop {es : Row} {x : Txt} {e : Txt × Nat} : e ∈ drop es x ↔ e ∈ es ∧ e.1 ≠ x := by
  unfold drop
  rw [List.mem_filter]
  simp
theorem put_length (es : Row) (x : Txt) (k : Nat) : (put es x k).length = es.length + 1 := by
  unfold put
  rw [List.length_append, List.length_cons, ← Nat.add_assoc, ← List.length_append, split_less]
theorem refs_put (es : Row) (x : Txt) (k n : Nat) : refs (put es x k) n = refs es n + if k = n then 1 else 0 := by
  unfold refs put
  rw [List.countP_append, List.countP_cons]
  have h : es.countP (fun e => decide (e.2 = n)) = (es.takeWhile fun e => less e.1 x).countP (fun e => decide (e.2 = n)) + (es.dropWhile fun e => less e.1 x).countP (fun e => decide (e.2 = n)) := by
    rw [← List.countP_append, split_less]
  rw [h]
  simp only [decide_eq_true_eq]
  omega
/-- A row that rises is told by what its names are of. -/
theorem rising_ext : ∀ {a b : Row}, Rising a → Rising b → (∀ x, look a x = look b x) → a = b
  | [], [], _, _, _ => rfl
  | [], e :: r, _, _, h => by
    have := h e.1
    rw [look, look, if_pos rfl] at this
    cases this
  | e :: r, [], _, _, h => by
    have := h e.1
    rw [look, look, if_pos rfl] at this
    cases this
  | e :: a, f :: b, ha, hb, h => by
    obtain ⟨a1, a2⟩ := List.pairwise_cons.1 ha
    obtain ⟨b1, b2⟩ := List.pairwise_cons.1 hb
    have he := h e.1
    have hf := h f.1
    rw [look, if_pos rfl] at he
    rw [look, look, if_pos rfl] at hf
    have hnm : e.1 = f.1 := by
      apply Classical.byContradiction
      intro hne
      rw [look, if_neg (fun e' => hne e'.symm)] at he
      rw [if_neg hne] at hf
      have m1 := b1 _ (look_mem he.symm)
      have m2 := a1 _ (look_mem hf)
      rw [less_asymm m1] at m2
      cases m2
    have hef : e = f := by
      rw [look, if_pos hnm.symm] at he
      injection he with he
      exact Prod.ext hnm he
    subst hef
    congr 1
    refine rising_ext a2 b2 fun x => ?_
    by_cases hx : e.1 = x
    · subst hx
      rw [look_none.2 fun g hg => (less_ne (a1 g hg)).symm, look_none.2 fun g hg => (less_ne (b1 g hg)).symm]
    · have := h x
      rw [look, look, if_neg hx, if_neg hx] at this
      exact this
theorem drop_put {es : Row} (hs : Rising es) {x : Txt} (hx : look es x = none) (k : Nat) : drop (put es x k) x = es := by
  refine rising_ext (drop_rising (put_rising hs hx k) x) hs fun y => ?_
  rw [look_drop, look_put]
  by_cases hy : y = x
  · rw [if_pos hy, hy, hx]
  · rw [if_neg hy, if_neg hy]
theorem put_drop {es : Row} (hs : Rising es) {x : Txt} {k : Nat} (hx : look es x = some k) : put (drop es x) x k = es := by
  have hn : look (drop es x) x = none := by rw [look_drop, if_pos rfl]
  refine rising_ext (put_rising (drop_rising hs x) hn k) hs fun y => ?_
  rw [look_put, look_drop]
  by_cases hy : y = x
  · rw [if_pos hy, hy, hx]
  · rw [if_neg hy, if_neg hy]
theorem refs_drop {es : Row} (hs : Rising es) {x : Txt} {k : Nat} (hx : look es x = some k) (n : Nat) : refs es n = refs (drop es x) n + if k = n then 1 else 0 := by
  rw [← refs_put (drop es x) x k n, put_drop hs hx]
theorem drop_length {es : Row} (hs : Rising es) {x : Txt} {k : Nat} (hx : look es x = some k) : es.length = (drop es x).length + 1 := by
  rw [← put_length (drop es x) x k, put_drop hs hx]
theorem drop_none {es : Row} {x : Txt} (hx : look es x = none) : drop es x = es := by
  unfold drop
  rw [List.filter_eq_self]
  intro e he
  simp [look_none.1 hx e he]
end Go.Proofs.YtlkiaghpdjbfeaaGreatDoor

namespace Go.Proofs.YtlkiaghpdjbfeaaGreatDoor

/-- A node. Kind 0: there is none; 1: a directory; 2: a file. -/
structure TNode where
  kind : Nat
  links : Nat
  data : Txt
  entries : Row
abbrev Tr := Nat → TNode
def noNode : TNode := ⟨0, 0, [], []⟩
/-- The root alone. -/
def newT : Tr := fun n => if n = 0 then ⟨1, 1, [], []⟩ else noNode
def Tr.set (t : Tr) (n : Nat) (x : TNode) : Tr := fun k => if k = n then x else t k
def Tr.rows (t : Tr) (n : Nat) (es : Row) : Tr := t.set n ⟨(t n).kind, (t n).links, (t n).data, es⟩

/-- From a node on, name by name: the error's number, or the node. -/
def walk (t : Tr) : Nat → List Txt → Except Nat Nat
  | n, [] => .ok n
  | n, x :: r => if (t n).kind ≠ 1 then .error 23 else match look (t n).entries x with
    | none => .error 21
    | some k => walk t k r
def find (t : Tr) (s : Txt) : Except Nat Nat := match pathM s with
  | none => .error 20
  | some ns => walk t 0 ns
/-- The place of a new entry: its directory and its name. -/
def place (t : Tr) (s : Txt) : Except Nat (Nat × Txt) := match pathM s with
  | none => .error 20
  | some [] => .error 20
  | some (x :: r) => match walk t 0 (x :: r).dropLast with
    | .error e => .error e
    | .ok d => if (t d).kind ≠ 1 then .error 23 else match look (t d).entries ((x :: r).getLast (by simp)) with
      | some _ => .error 22
      | none => .ok (d, (x :: r).getLast (by simp))
/-- The least number that no node has. -/
def least (t : Tr) : Option Nat := (List.range 64).find? fun n => decide ((t n).kind = 0)

structure TCall where
  kind : Int
  path : Txt
  other : Txt
  off : Int
  n : Int
  data : Txt
structure TAns where
  err : Nat
  kind : Nat
  size : Nat
  links : Nat
  data : Txt
  names : List Txt
def okA : TAns := ⟨0, 0, 0, 0, [], []⟩
def errA (e : Nat) : TAns := ⟨e, 0, 0, 0, [], []⟩

/-- A file's bytes, so many: the first ones, or noughts behind. -/
def sized (b : Txt) (n : Nat) : Txt := b.take n ++ List.replicate (n - b.length) 0
/-- Bytes laid over others, from a place on. -/
def over (b : Txt) (off : Nat) (d : Txt) : Txt := b.take off ++ d ++ b.drop (off + d.length)
/-- What a file has behind a write. -/
def written (b : Txt) (off : Nat) (d : Txt) : Txt := if d = [] then b else over (sized b (max b.length (off + d.length))) off d

/-- A call that opens a node: a directory, or a file. -/
def doMake (t : Tr) (kind : Nat) (s : Txt) : TAns × Tr := match place t s with
  | .error e => (errA e, t)
  | .ok (d, x) => match least t with
    | none => (errA 27, t)
    | some n => (okA, (t.set n ⟨kind, 1, [], []⟩).rows d (put (t d).entries x n))
/-- The node of a path that isn't the root's, the directory above it, its last name. -/
def findUp (t : Tr) (s : Txt) : Except Nat (Nat × Nat × Txt) := match pathM s with
  | none => .error 20
  | some [] => .error 20
  | some (x :: r) => match walk t 0 (x :: r) with
    | .error e => .error e
    | .ok a => match walk t 0 (x :: r).dropLast with
      | .error e => .error e
      | .ok p => .ok (a, p, (x :: r).getLast (by simp))
/-- An entry goes; its node too, if that was its last one. -/
def unlinked (t : Tr) (a p : Nat) (x : Txt) : Tr :=
  (t.rows p (drop (t p).entries x)).set a (if (t a).links = 1 then noNode else ⟨(t a).kind, (t a).links - 1, (t a).data, (t a).entries⟩)
def doRmdir (t : Tr) (s : Txt) : TAns × Tr := match findUp t s with
  | .error e => (errA e, t)
  | .ok (a, p, x) => if (t a).kind ≠ 1 then (errA 23, t) else if (t a).entries ≠ [] then (errA 25, t) else (okA, unlinked t a p x)
def doUnlink (t : Tr) (s : Txt) : TAns × Tr := match findUp t s with
  | .error e => (errA e, t)
  | .ok (a, p, x) => if (t a).kind = 1 then (errA 24, t) else (okA, unlinked t a p x)
def doLink (t : Tr) (s o : Txt) : TAns × Tr := match find t s with
  | .error e => (errA e, t)
  | .ok a => if (t a).kind = 1 then (errA 24, t) else match place t o with
    | .error e => (errA e, t)
    | .ok (d, x) => (okA, (t.rows d (put (t d).entries x a)).set a ⟨(t a).kind, (t a).links + 1, (t a).data, (t a).entries⟩)
/-- An entry goes from one directory to another one. -/
def moved (t : Tr) (a p : Nat) (x : Txt) (d : Nat) (y : Txt) : Tr :=
  let u := t.rows p (drop (t p).entries x)
  u.rows d (put (u d).entries y a)
def doRename (t : Tr) (s o : Txt) : TAns × Tr := match findUp t s with
  | .error e => (errA e, t)
  | .ok (a, p, x) => if o = s then (okA, t) else if insideM o s = true then (errA 26, t) else match place t o with
    | .error e => (errA e, t)
    | .ok (d, y) => (okA, moved t a p x d y)
/-- The file of a path. -/
def findFile (t : Tr) (s : Txt) : Except Nat Nat := match find t s with
  | .error e => .error e
  | .ok a => if (t a).kind = 1 then .error 24 else .ok a
def Tr.bytes (t : Tr) (n : Nat) (b : Txt) : Tr := t.set n ⟨(t n).kind, (t n).links, b, (t n).entries⟩
def doWrite (t : Tr) (s : Txt) (off : Int) (d : Txt) : TAns × Tr := match findFile t s with
  | .error e => (errA e, t)
  | .ok a => if off < 0 ∨ 256 < d.length then (errA 1, t) else if 512 < off.toNat + d.length then (errA 27, t) else (okA, t.bytes a (written (t a).data off.toNat d))
def doRead (t : Tr) (s : Txt) (off n : Int) : TAns × Tr := match findFile t s with
  | .error e => (errA e, t)
  | .ok a => if off < 0 ∨ n < 0 ∨ 256 < n then (errA 1, t) else (⟨0, 0, 0, 0, ((t a).data.drop off.toNat).take n.toNat, []⟩, t)
def doCut (t : Tr) (s : Txt) (n : Int) : TAns × Tr := match findFile t s with
  | .error e => (errA e, t)
  | .ok a => if n < 0 then (errA 1, t) else if 512 < n then (errA 27, t) else (okA, t.bytes a (sized (t a).data n.toNat))
def doStat (t : Tr) (s : Txt) : TAns × Tr := match find t s with
  | .error e => (errA e, t)
  | .ok a => (⟨0, (t a).kind, (t a).data.length + (t a).entries.length, (t a).links, [], []⟩, t)
def doList (t : Tr) (s : Txt) : TAns × Tr := match find t s with
  | .error e => (errA e, t)
  | .ok a => if (t a).kind ≠ 1 then (errA 23, t) else (⟨0, 0, 0, 0, [], (t a).entries.map (·.1)⟩, t)
/-- What a call answers, and the tree behind it. -/
def doT (t : Tr) (c : TCall) : TAns × Tr :=
  if c.kind = 1 then doMake t 1 c.path
  else if c.kind = 2 then doRmdir t c.path
  else if c.kind = 3 then doMake t 2 c.path
  else if c.kind = 4 then doUnlink t c.path
  else if c.kind = 5 then doLink t c.path c.other
  else if c.kind = 6 then doRename t c.path c.other
  else if c.kind = 7 then doWrite t c.path c.off c.data
  else if c.kind = 8 then doRead t c.path c.off c.n
  else if c.kind = 9 then doCut t c.path c.n
  else if c.kind = 10 then doStat t c.path
  else if c.kind = 11 then doList t c.path
  else if c.kind = 12 then (okA, t)
  else (errA 1, t)
/-- What calls leave. -/
def doAll (t : Tr) (cs : List TCall) : Tr := cs.foldl (fun t c => (doT t c).2) t

section
variable {t : Tr}
theorem Tr.set_same (n : Nat) (x : TNode) : t.set n x n = x := if_pos rfl
theorem Tr.set_other {n k : Nat} (h : k ≠ n) (x : TNode) : t.set n x k = t k := if_neg h
theorem Tr.rows_entries (n : Nat) (es : Row) (k : Nat) : (t.rows n es k).entries = if k = n then es else (t k).entries := by
  unfold Tr.rows Tr.set
  split <;> rfl
theorem Tr.rows_kind (n : Nat) (es : Row) (k : Nat) : (t.rows n es k).kind = (t k).kind := by
  unfold Tr.rows Tr.set
  split
  · next h => rw [h]
  · rfl
theorem Tr.rows_links (n : Nat) (es : Row) (k : Nat) : (t.rows n es k).links = (t k).links := by
  unfold Tr.rows Tr.set
  split
  · next h => rw [h]
  · rfl
theorem Tr.rows_data (n : Nat) (es : Row) (k : Nat) : (t.rows n es k).data = (t k).data := by
  unfold Tr.rows Tr.set
  split
  · next h => rw [h]
  · rfl
end

/-! ### Errors change nothing -/
theorem doMake_err {t : Tr} {k : Nat} {s : Txt} (h : (doMake t k s).1.err ≠ 0) : (doMake t k s).2 = t := by
  unfold doMake at h ⊢
  split at h
  · rfl
  · split at h
    · rfl
    · exact absurd rfl h
theorem doRmdir_err {t : Tr} {s : Txt} (h : (doRmdir t s).1.err ≠ 0) : (doRmdir t s).2 = t := by
  unfold doRmdir at h ⊢
  split at h
  · rfl
  · split at h
    · next hh => rw [if_pos hh]
    · next hh =>
      rw [if_neg hh]
      split at h
      · next h2 => rw [if_pos h2]
      · exact absurd rfl h
theorem doUnlink_err {t : Tr} {s : Txt} (h : (doUnlink t s).1.err ≠ 0) : (doUnlink t s).2 = t := by
  unfold doUnlink at h ⊢
  split at h
  · rfl
  · split at h
    · next hh => rw [if_pos hh]
    · exact absurd rfl h
theorem doLink_err {t : Tr} {s o : Txt} (h : (doLink t s o).1.err ≠ 0) : (doLink t s o).2 = t := by
  unfold doLink at h ⊢
  split at h
  · rfl
  · split at h
    · next hh => rw [if_pos hh]
    · next hh =>
      rw [if_neg hh]
      split at h
      · rfl
      · exact absurd rfl h
theorem doRename_err {t : Tr} {s o : Txt} (h : (doRename t s o).1.err ≠ 0) : (doRename t s o).2 = t := by
  unfold doRename at h ⊢
  split at h
  · rfl
  · split at h
    · next hh => rw [if_pos hh]
    · next hh =>
      rw [if_neg hh]
      split at h
      · next h2 => rw [if_pos h2]
      · next h2 =>
        rw [if_neg h2]
        split at h
        · rfl
        · exact absurd rfl h
theorem doWrite_err {t : Tr} {s : Txt} {off : Int} {d : Txt} (h : (doWrite t s off d).1.err ≠ 0) : (doWrite t s off d).2 = t := by
  unfold doWrite at h ⊢
  split at h
  · rfl
  · split at h
    · next hh => rw [if_pos hh]
    · next hh =>
      rw [if_neg hh]
      split at h
      · next h2 => rw [if_pos h2]
      · exact absurd rfl h
theorem doCut_err {t : Tr} {s : Txt} {n : Int} (h : (doCut t s n).1.err ≠ 0) : (doCut t s n).2 = t := by
  unfold doCut at h ⊢
  split at h
  · rfl
  · split at h
    · next hh => rw [if_pos hh]
    · next hh =>
      rw [if_neg hh]
      split at h
      · next h2 => rw [if_pos h2]
      · exact absurd rfl h
theorem doRead_same (t : Tr) (s : Txt) (off n : Int) : (doRead t s off n).2 = t := by
  unfold doRead
  split
  · rfl
  · split <;> rfl
theorem doStat_same (t : Tr) (s : Txt) : (doStat t s).2 = t := by
  unfold doStat
  split <;> rfl
theorem doList_same (t : Tr) (s : Txt) : (doList t s).2 = t := by
  unfold doList
  split
  · rfl
  · split <;> rfl
/-- A call, by its kind. -/
theorem doT_cases (t : Tr) (c : TCall) (P : TAns × Tr → Prop) (h1 : c.kind = 1 → P (doMake t 1 c.path)) (h2 : c.kind = 2 → P (doRmdir t c.path)) (h3 : c.kind = 3 → P (doMake t 2 c.path))
    (h4 : c.kind = 4 → P (doUnlink t c.path)) (h5 : c.kind = 5 → P (doLink t c.path c.other)) (h6 : c.kind = 6 → P (doRename t c.path c.other)) (h7 : c.kind = 7 → P (doWrite t c.path c.off c.data))
    (h8 : c.kind = 8 → P (doRead t c.path c.off c.n)) (h9 : c.kind = 9 → P (doCut t c.path c.n)) (h10 : c.kind = 10 → P (doStat t c.path)) (h11 : c.kind = 11 → P (doList t c.path)) (h12 : c.kind = 12 → P (okA, t))
    (h : (c.kind < 1 ∨ 12 < c.kind) → P (errA 1, t)) : P (doT t c) := by
  unfold doT
  by_cases e1 : c.kind = 1
  · rw [if_pos e1]; exact h1 e1
  rw [if_neg e1]
  by_cases e2 : c.kind = 2
  · rw [if_pos e2]; exact h2 e2
  rw [if_neg e2]
  by_cases e3 : c.kind = 3
  · rw [if_pos e3]; exact h3 e3
  rw [if_neg e3]
  by_cases e4 : c.kind = 4
  · rw [if_pos e4]; exact h4 e4
  rw [if_neg e4]
  by_cases e5 : c.kind = 5
  · rw [if_pos e5]; exact h5 e5
  rw [if_neg e5]
  by_cases e6 : c.kind = 6
  · rw [if_pos e6]; exact h6 e6
  rw [if_neg e6]
  by_cases e7 : c.kind = 7
  · rw [if_pos e7]; exact h7 e7
  rw [if_neg e7]
  by_cases e8 : c.kind = 8
  · rw [if_pos e8]; exact h8 e8
  rw [if_neg e8]
  by_cases e9 : c.kind = 9
  · rw [if_pos e9]; exact h9 e9
  rw [if_neg e9]
  by_cases e10 : c.kind = 10
  · rw [if_pos e10]; exact h10 e10
  rw [if_neg e10]
  by_cases e11 : c.kind = 11
  · rw [if_pos e11]; exact h11 e11
  rw [if_neg e11]
  by_cases e12 : c.kind = 12
  · rw [if_pos e12]; exact h12 e12
  rw [if_neg e12]
  exact h (by omega)
theorem doT_err {t : Tr} {c : TCall} : (doT t c).1.err ≠ 0 → (doT t c).2 = t :=
  doT_cases t c (fun r => r.1.err ≠ 0 → r.2 = t) (fun _ => doMake_err) (fun _ => doRmdir_err) (fun _ => doMake_err) (fun _ => doUnlink_err) (fun _ => doLink_err) (fun _ => doRename_err) (fun _ => doWrite_err)
    (fun _ _ => doRead_same ..) (fun _ => doCut_err) (fun _ _ => doStat_same ..) (fun _ _ => doList_same ..) (fun _ _ => rfl) (fun _ _ => rfl)
/-- Does a kind of call change a tree? -/
def changes (k : Int) : Bool := decide (1 ≤ k ∧ k ≤ 9 ∧ k ≠ 8)
theorem doT_quiet {t : Tr} {c : TCall} (h : changes c.kind = false) : (doT t c).2 = t := by
  have h' := of_decide_eq_false h
  exact doT_cases t c (fun r => r.2 = t) (fun e => by omega) (fun e => by omega) (fun e => by omega) (fun e => by omega) (fun e => by omega) (fun e => by omega) (fun e => by omega)
    (fun _ => doRead_same ..) (fun e => by omega) (fun _ => doStat_same ..) (fun _ => doList_same ..) (fun _ => rfl) (fun _ => rfl)
end Go.Proofs.YtlkiaghpdjbfeaaGreatDoor

namespace Go.Proofs.YtlkiaghpdjbfeaaGreatDoor

/-- How many entries of all directories are of a node. -/
def allRefs (t : Tr) (n : Nat) : Nat := ((List.range 64).map fun m => refs (t m).entries n).sum
theorem sum_change (f g : Nat → Nat) (p : Nat) (h : ∀ m, m ≠ p → f m = g m) : ∀ N, (N ≤ p → ((List.range N).map f).sum = ((List.range N).map g).sum) ∧ (p < N → ((List.range N).map f).sum + g p = ((List.range N).map g).sum + f p) := by
  intro N
  induction N with
  | zero => exact ⟨fun _ => rfl, fun h => by omega⟩
  | succ N ih =>
    obtain ⟨i1, i2⟩ := ih
    simp only [List.range_succ, List.map_append, List.map_cons, List.map_nil, List.sum_append, List.sum_cons, List.sum_nil, Nat.add_zero]
    refine ⟨fun hp => ?_, fun hp => ?_⟩
    · rw [i1 (by omega), h N (by omega)]
    · by_cases e : p = N
      · subst e
        rw [i1 (Nat.le_refl _)]
        omega
      · have := i2 (by omega)
        rw [h N (fun e' => e e'.symm)]
        omega
theorem allRefs_change {t u : Tr} {p : Nat} (hp : p < 64) (h : ∀ m, m ≠ p → (u m).entries = (t m).entries) (n : Nat) : allRefs u n + refs (t p).entries n = allRefs t n + refs (u p).entries n :=
  (sum_change (fun m => refs (u m).entries n) (fun m => refs (t m).entries n) p (fun m hm => by rw [h m hm]) 64).2 hp
theorem allRefs_same {t u : Tr} (h : ∀ m, (u m).entries = (t m).entries) (n : Nat) : allRefs u n = allRefs t n := by
  unfold allRefs
  congr 1
  exact List.map_congr_left fun m _ => by rw [h m]
theorem sum_ge (f : Nat → Nat) {p : Nat} : ∀ N, p < N → f p ≤ ((List.range N).map f).sum := by
  intro N
  induction N with
  | zero => intro h; omega
  | succ N ih =>
    intro h
    simp only [List.range_succ, List.map_append, List.map_cons, List.map_nil, List.sum_append, List.sum_cons, List.sum_nil, Nat.add_zero]
    by_cases e : p = N
    · subst e; omega
    · have := ih (by omega); omega
theorem sum_two (f : Nat → Nat) {p q : Nat} (hpq : p ≠ q) : ∀ N, p < N → q < N → f p + f q ≤ ((List.range N).map f).sum := by
  intro N
  induction N with
  | zero => intro h; omega
  | succ N ih =>
    intro h1 h2
    simp only [List.range_succ, List.map_append, List.map_cons, List.map_nil, List.sum_append, List.sum_cons, List.sum_nil, Nat.add_zero]
    by_cases e : p = N
    · subst e
      have := sum_ge f (p := q) p (by omega)
      omega
    · by_cases e2 : q = N
      · subst e2
        have := sum_ge f (p := p) q (by omega)
        omega
      · have := ih (by omega) (by omega)
        omega
theorem sum_pos (f : Nat → Nat) : ∀ N, 0 < ((List.range N).map f).sum → ∃ m, m < N ∧ 0 < f m := by
  intro N
  induction N with
  | zero => intro h; exact absurd h (by simp)
  | succ N ih =>
    intro h
    simp only [List.range_succ, List.map_append, List.map_cons, List.map_nil, List.sum_append, List.sum_cons, List.sum_nil, Nat.add_zero] at h
    by_cases e : 0 < f N
    · exact ⟨N, by omega, e⟩
    · obtain ⟨m, hm, hf⟩ := ih (by omega)
      exact ⟨m, by omega, hf⟩
theorem refs_mem {es : Row} {x : Txt} {n : Nat} (h : (x, n) ∈ es) : 1 ≤ refs es n := by
  unfold refs
  exact List.countP_pos_iff.2 ⟨_, h, by simp⟩
theorem refs_pos {es : Row} {n : Nat} (h : 0 < refs es n) : ∃ x, (x, n) ∈ es := by
  unfold refs at h
  obtain ⟨e, he, hp⟩ := List.countP_pos_iff.1 h
  refine ⟨e.1, ?_⟩
  have : e.2 = n := by simpa using hp
  rw [← this]
  exact he

structure Good (t : Tr) : Prop where
  root : (t 0).kind = 1 ∧ (t 0).links = 1
  top : ∀ n, 64 ≤ n → (t n).kind = 0
  void : ∀ n, (t n).kind = 0 → t n = noNode
  kinds : ∀ n, (t n).kind ≤ 2
  dir : ∀ n, (t n).kind = 1 → (t n).links = 1 ∧ (t n).data = []
  file : ∀ n, (t n).kind = 2 → (t n).entries = [] ∧ (t n).data.length ≤ 512
  rising : ∀ n, Rising (t n).entries
  entry : ∀ n, ∀ e ∈ (t n).entries, IsName e.1 ∧ e.2 ≠ 0 ∧ (t e.2).kind ≠ 0
  count : ∀ n, n ≠ 0 → (t n).kind ≠ 0 → allRefs t n = (t n).links ∧ 1 ≤ (t n).links
  rank : ∃ d : Nat → Nat, ∀ n, ∀ e ∈ (t n).entries, (t e.2).kind = 1 → d n < d e.2
namespace Good
variable {t : Tr}
theorem lt (g : Good t) {n : Nat} (h : (t n).kind ≠ 0) : n < 64 := by
  rcases Nat.lt_or_ge n 64 with h' | h'
  · exact h'
  · exact absurd (g.top n h') h
theorem isDir (g : Good t) {n : Nat} {e : Txt × Nat} (h : e ∈ (t n).entries) : (t n).kind = 1 := by
  have h1 := g.kinds n
  have h2 : (t n).kind ≠ 0 := fun h0 => by rw [g.void n h0] at h; cases h
  have h3 : (t n).kind ≠ 2 := fun h0 => by rw [(g.file n h0).1] at h; cases h
  omega
theorem zero_refs (g : Good t) {n : Nat} (h : (t n).kind = 0 ∨ n = 0) : allRefs t n = 0 := by
  apply Classical.byContradiction
  intro hne
  obtain ⟨m, _, hm⟩ := sum_pos _ 64 (Nat.pos_of_ne_zero hne)
  obtain ⟨x, hx⟩ := refs_pos hm
  have := g.entry m _ hx
  rcases h with h | h
  · exact this.2.2 h
  · exact this.2.1 h
/-- A directory is of one entry alone. -/
theorem only (g : Good t) {n m m' : Nat} {x x' : Txt} (hd : (t n).kind = 1) (h : look (t m).entries x = some n) (h' : look (t m').entries x' = some n) : m = m' ∧ x = x' := by
  have e1 := look_mem h
  have e2 := look_mem h'
  have hn := (g.entry m _ e1).2.1
  have hc := (g.count n hn (by omega)).1
  rw [(g.dir n hd).1] at hc
  have hm := g.lt (n := m) (by rw [g.isDir e1]; omega)
  have hm' := g.lt (n := m') (by rw [g.isDir e2]; omega)
  have r1 := refs_mem e1
  have r2 := refs_mem e2
  have hmm : m = m' := by
    apply Classical.byContradiction
    intro hne
    have h2 : refs (t m).entries n + refs (t m').entries n ≤ allRefs t n := sum_two (fun k => refs (t k).entries n) hne 64 hm hm'
    omega
  subst hmm
  refine ⟨rfl, ?_⟩
  apply Classical.byContradiction
  intro hne
  have h1 : refs (t m).entries n ≤ allRefs t n := sum_ge (fun k => refs (t k).entries n) 64 hm
  have h2 := refs_drop (g.rising m) h n
  have h3 : look (drop (t m).entries x) x' = some n := by rw [look_drop, if_neg (fun e => hne e.symm)]; exact h'
  have h4 := refs_mem (look_mem h3)
  rw [if_pos rfl] at h2
  omega
end Good

theorem walk_append (t : Tr) : ∀ (n : Nat) (xs ys : List Txt), walk t n (xs ++ ys) = match walk t n xs with | .error e => .error e | .ok m => walk t m ys
  | n, [], ys => rfl
  | n, x :: r, ys => by
    rw [List.cons_append, walk, walk]
    split
    · rfl
    · split
      · rfl
      · exact walk_append t _ r ys
theorem walk_snoc {t : Tr} {n k : Nat} {xs : List Txt} {x : Txt} (h : walk t n (xs ++ [x]) = .ok k) : ∃ m, walk t n xs = .ok m ∧ (t m).kind = 1 ∧ look (t m).entries x = some k := by
  rw [walk_append] at h
  split at h
  · cases h
  · next m hm =>
    rw [walk] at h
    split at h
    · cases h
    · next hk =>
      split at h
      · cases h
      · next k' hk' =>
        rw [walk] at h
        injection h with h
        subst h
        exact ⟨m, hm, by omega, hk'⟩
theorem walk_snoc_ok {t : Tr} {n m k : Nat} {xs : List Txt} {x : Txt} (h : walk t n xs = .ok m) (hk : (t m).kind = 1) (hl : look (t m).entries x = some k) : walk t n (xs ++ [x]) = .ok k := by
  rw [walk_append, h]
  show walk t m [x] = _
  rw [walk, if_neg (by omega), hl]
  rfl
/-- What is walked to is a node. -/
theorem Good.walked {t : Tr} (g : Good t) : ∀ {xs : List Txt} {n m : Nat}, (t n).kind ≠ 0 → walk t n xs = .ok m → (t m).kind ≠ 0
  | [], n, m, hn, h => by
    rw [walk] at h
    injection h with h
    subst h
    exact hn
  | x :: r, n, m, hn, h => by
    rw [walk] at h
    split at h
    · cases h
    · split at h
      · cases h
      · next k hk => exact Good.walked g (g.entry n _ (look_mem hk)).2.2 h
/-- The root is at no end of a way. -/
theorem Good.not_root {t : Tr} (g : Good t) {xs : List Txt} {n : Nat} {x : Txt} {k : Nat} (h : walk t n (xs ++ [x]) = .ok k) : k ≠ 0 := by
  obtain ⟨m, _, _, hl⟩ := walk_snoc h
  exact (g.entry m _ (look_mem hl)).2.1
/-- There is one way to a directory. -/
theorem Good.one_way {t : Tr} (g : Good t) : ∀ (N : Nat) {xs ys : List Txt} {n : Nat}, xs.length ≤ N → walk t 0 xs = .ok n → walk t 0 ys = .ok n → (t n).kind = 1 → xs = ys
  | N, xs, ys, n, hN, hx, hy, hd => by
    rcases List.eq_nil_or_concat xs with rfl | ⟨xs', x, rfl⟩
    · rw [walk] at hx
      injection hx with hx
      subst hx
      rcases List.eq_nil_or_concat ys with rfl | ⟨ys', y, rfl⟩
      · rfl
      · rw [List.concat_eq_append] at hy
        exact absurd rfl (g.not_root hy)
    · rw [List.concat_eq_append] at hx hN ⊢
      rcases List.eq_nil_or_concat ys with rfl | ⟨ys', y, rfl⟩
      · rw [walk] at hy
        injection hy with hy
        subst hy
        exact absurd rfl (g.not_root hx)
      · rw [List.concat_eq_append] at hy ⊢
        obtain ⟨m, hm, hmd, hml⟩ := walk_snoc hx
        obtain ⟨m', hm', hmd', hml'⟩ := walk_snoc hy
        obtain ⟨rfl, rfl⟩ := g.only hd hml hml'
        match N, hN with
        | 0, hN => simp at hN
        | N + 1, hN => rw [Good.one_way g N (by simp at hN; omega) hm hm' hmd]

/-- A new node. -/
theorem Good.make {t : Tr} (g : Good t) {kind d n : Nat} {x : Txt} (hk : kind = 1 ∨ kind = 2) (hd : (t d).kind = 1) (hx : look (t d).entries x = none) (hnm : IsName x) (hn : (t n).kind = 0) (hn64 : n < 64) :
    Good ((t.set n ⟨kind, 1, [], []⟩).rows d (put (t d).entries x n)) := by
  have hdn : d ≠ n := fun e => by rw [e, hn] at hd; cases hd
  have hn0 : n ≠ 0 := fun e => by rw [e, g.root.1] at hn; cases hn
  have hd64 := g.lt (n := d) (by omega)
  have hne : (t n).entries = [] := by rw [g.void n hn]; rfl
  have E : ∀ m, (((t.set n ⟨kind, 1, [], []⟩).rows d (put (t d).entries x n)) m).entries = if m = d then put (t d).entries x n else (t m).entries := fun m => by
    rw [Tr.rows_entries]
    by_cases h1 : m = d
    · rw [if_pos h1, if_pos h1]
    · rw [if_neg h1, if_neg h1]
      by_cases h2 : m = n
      · rw [h2, Tr.set_same, hne]
      · rw [Tr.set_other h2]
  have K : ∀ m, (((t.set n ⟨kind, 1, [], []⟩).rows d (put (t d).entries x n)) m).kind = if m = n then kind else (t m).kind := fun m => by
    rw [Tr.rows_kind]
    by_cases h2 : m = n
    · rw [h2, Tr.set_same, if_pos rfl]
    · rw [Tr.set_other h2, if_neg h2]
  have L : ∀ m, (((t.set n ⟨kind, 1, [], []⟩).rows d (put (t d).entries x n)) m).links = if m = n then 1 else (t m).links := fun m => by
    rw [Tr.rows_links]
    by_cases h2 : m = n
    · rw [h2, Tr.set_same, if_pos rfl]
    · rw [Tr.set_other h2, if_neg h2]
  have D : ∀ m, (((t.set n ⟨kind, 1, [], []⟩).rows d (put (t d).entries x n)) m).data = if m = n then [] else (t m).data := fun m => by
    rw [Tr.rows_data]
    by_cases h2 : m = n
    · rw [h2, Tr.set_same, if_pos rfl]
    · rw [Tr.set_other h2, if_neg h2]
  have hnone : ∀ m, m ≠ n → m ≠ d → ((t.set n ⟨kind, 1, [], []⟩).rows d (put (t d).entries x n)) m = t m := fun m h1 h2 => by
    unfold Tr.rows
    rw [Tr.set_other h2, Tr.set_other h1]
  generalize (t.set n ⟨kind, 1, [], []⟩).rows d (put (t d).entries x n) = u at E K L D hnone
  have R : ∀ k, allRefs u k = allRefs t k + if n = k then 1 else 0 := fun k => by
    have := allRefs_change (t := t) (u := u) hd64 (fun m hm => by rw [E m, if_neg hm]) k
    rw [E d, if_pos rfl, refs_put] at this
    omega
  obtain ⟨rk, hrk⟩ := g.rank
  refine ⟨⟨?_, ?_⟩, fun m hm => ?_, fun m hm => ?_, fun m => ?_, fun m hm => ?_, fun m hm => ?_, fun m => ?_, fun m e he => ?_, fun m hm0 hm => ?_, ⟨fun k => if k = n then rk d + 1 else rk k, fun m e he hek => ?_⟩⟩
  · rw [K, if_neg (fun e => hn0 e.symm)]; exact g.root.1
  · rw [L, if_neg (fun e => hn0 e.symm)]; exact g.root.2
  · rw [K, if_neg (by omega)]; exact g.top m hm
  · rw [K] at hm
    by_cases h2 : m = n
    · rw [if_pos h2] at hm; omega
    · rw [if_neg h2] at hm
      have h1 : m ≠ d := fun e => by rw [e, hd] at hm; cases hm
      rw [hnone m h2 h1]
      exact g.void m hm
  · rw [K]
    split
    · omega
    · exact g.kinds m
  · rw [K] at hm
    rw [L, D]
    split at hm
    · next h2 => rw [if_pos h2, if_pos h2]; exact ⟨rfl, rfl⟩
    · next h2 => rw [if_neg h2, if_neg h2]; exact g.dir m hm
  · rw [K] at hm
    rw [E, D]
    have h1 : m ≠ d := fun e => by
      rw [e, if_neg hdn, hd] at hm; cases hm
    rw [if_neg h1]
    split at hm
    · next h2 => rw [if_pos h2, h2, hne]; exact ⟨rfl, by simp⟩
    · next h2 => rw [if_neg h2]; exact g.file m hm
  · rw [E]
    split
    · exact put_rising (g.rising d) hx n
    · exact g.rising m
  · rw [E] at he
    rw [K]
    split at he
    · rcases mem_put.1 he with rfl | he
      · exact ⟨hnm, hn0, by rw [if_pos rfl]; omega⟩
      · obtain ⟨a, b, c⟩ := g.entry d e he
        refine ⟨a, b, ?_⟩
        rw [if_neg (fun h => by rw [h] at c; exact c hn)]
        exact c
    · obtain ⟨a, b, c⟩ := g.entry m e he
      refine ⟨a, b, ?_⟩
      rw [if_neg (fun h => by rw [h] at c; exact c hn)]
      exact c
  · rw [R, L]
    rw [K] at hm
    by_cases h2 : m = n
    · rw [if_pos h2, h2, if_pos rfl, g.zero_refs (Or.inl hn)]
      exact ⟨rfl, Nat.le_refl _⟩
    · rw [if_neg h2] at hm ⊢
      rw [if_neg (fun e => h2 e.symm), Nat.add_zero]
      exact g.count m hm0 hm
  · rw [E] at he
    rw [K] at hek
    have hmn : m ≠ n := fun h => by
      rw [h, if_neg (fun e => hdn e.symm), hne] at he
      cases he
    show (if m = n then rk d + 1 else rk m) < if e.2 = n then rk d + 1 else rk e.2
    rw [if_neg hmn]
    by_cases h2 : e.2 = n
    · rw [if_pos h2]
      split at he
      · next h1 => rw [h1]; omega
      · exact absurd hn (by have := (g.entry m e he).2.2; rw [h2] at this; exact this)
    · rw [if_neg h2] at hek ⊢
      split at he
      · next h1 =>
        rcases mem_put.1 he with rfl | he
        · exact absurd rfl h2
        · rw [h1]; exact hrk d e he hek
      · exact hrk m e he hek

/-- An entry goes; its node too, if that was its last one. -/
theorem Good.unlink {t : Tr} (g : Good t) {a p : Nat} {x : Txt} (hl : look (t p).entries x = some a) (hes : (t a).entries = []) : Good (unlinked t a p x) := by
  have hm := look_mem hl
  have hp := g.isDir hm
  have hp64 := g.lt (n := p) (by omega)
  obtain ⟨_, ha0, hak⟩ := g.entry p _ hm
  have hap : a ≠ p := fun e => by rw [e] at hes; rw [hes] at hl; cases hl
  have hcount := g.count a ha0 hak
  have E : ∀ m, (unlinked t a p x m).entries = if m = p then drop (t p).entries x else (t m).entries := fun m => by
    unfold unlinked
    by_cases h1 : m = a
    · rw [h1, Tr.set_same, if_neg hap, hes]
      split
      · rfl
      · rfl
    · rw [Tr.set_other h1, Tr.rows_entries]
  have K : ∀ m, (unlinked t a p x m).kind = if m = a ∧ (t a).links = 1 then 0 else (t m).kind := fun m => by
    unfold unlinked
    by_cases h1 : m = a
    · rw [h1, Tr.set_same]
      split
      · next h => rw [if_pos ⟨rfl, h⟩]; rfl
      · next h => rw [if_neg (fun h' => h h'.2)]
    · rw [Tr.set_other h1, Tr.rows_kind, if_neg (fun h' => h1 h'.1)]
  have L : ∀ m, (unlinked t a p x m).links = if m = a then (t a).links - 1 else (t m).links := fun m => by
    unfold unlinked
    by_cases h1 : m = a
    · rw [h1, Tr.set_same, if_pos rfl]
      split
      · next h => rw [h]; rfl
      · rfl
    · rw [Tr.set_other h1, Tr.rows_links, if_neg h1]
  have D : ∀ m, (unlinked t a p x m).data = if m = a ∧ (t a).links = 1 then [] else (t m).data := fun m => by
    unfold unlinked
    by_cases h1 : m = a
    · rw [h1, Tr.set_same]
      split
      · next h => rw [if_pos ⟨rfl, h⟩]; rfl
      · next h => rw [if_neg (fun h' => h h'.2)]
    · rw [Tr.set_other h1, Tr.rows_data, if_neg (fun h' => h1 h'.1)]
  have hgone : (t a).links = 1 → unlinked t a p x a = noNode := fun h => by
    unfold unlinked
    rw [Tr.set_same, if_pos h]
  have hsame : ∀ m, m ≠ a → m ≠ p → unlinked t a p x m = t m := fun m h1 h2 => by
    unfold unlinked Tr.rows
    rw [Tr.set_other h1, Tr.set_other h2]
  generalize unlinked t a p x = u at E K L D hgone hsame
  have R : ∀ k, allRefs u k + (if a = k then 1 else 0) = allRefs t k := fun k => by
    have := allRefs_change (t := t) (u := u) hp64 (fun m hm => by rw [E m, if_neg hm]) k
    rw [E p, if_pos rfl, refs_drop (g.rising p) hl k] at this
    omega
  have sub : ∀ m, ∀ e ∈ (u m).entries, e ∈ (t m).entries := fun m e he => by
    rw [E] at he
    split at he
    · next h => rw [h]; exact (mem_drop.1 he).1
    · exact he
  obtain ⟨rk, hrk⟩ := g.rank
  refine ⟨⟨?_, ?_⟩, fun m hm => ?_, fun m hm => ?_, fun m => ?_, fun m hm => ?_, fun m hm => ?_, fun m => ?_, fun m e he => ?_, fun m hm0 hm => ?_, ⟨rk, fun m e he hek => ?_⟩⟩
  · rw [K, if_neg (fun h => ha0 h.1.symm)]; exact g.root.1
  · rw [L, if_neg (fun h => ha0 h.symm)]; exact g.root.2
  · rw [K]
    split
    · rfl
    · exact g.top m hm
  · rw [K] at hm
    split at hm
    · next h => rw [h.1]; exact hgone h.2
    · next h =>
      have h1 : m ≠ p := fun e => by rw [e, hp] at hm; cases hm
      have h2 : m ≠ a := fun e => by rw [e] at hm; exact hak hm
      rw [hsame m h2 h1]
      exact g.void m hm
  · rw [K]
    split
    · omega
    · exact g.kinds m
  · rw [K] at hm
    split at hm
    · cases hm
    · next h =>
      obtain ⟨d1, d2⟩ := g.dir m hm
      rw [L, D, if_neg h]
      refine ⟨?_, d2⟩
      split
      · next h2 => exact absurd ⟨h2, by rw [← h2]; exact d1⟩ h
      · exact d1
  · rw [K] at hm
    split at hm
    · cases hm
    · next h =>
      rw [E, D, if_neg h, if_neg (fun e => by rw [e, hp] at hm; cases hm)]
      exact g.file m hm
  · rw [E]
    split
    · exact drop_rising (g.rising p) x
    · exact g.rising m
  · obtain ⟨e1, e2, e3⟩ := g.entry m e (sub m e he)
    refine ⟨e1, e2, ?_⟩
    rw [K]
    split
    · next h =>
      exfalso
      have h64 : m < 64 := g.lt (by rw [g.isDir (sub m e he)]; omega)
      have h1 := refs_mem (es := (u m).entries) (x := e.1) (n := e.2) he
      have h2 : refs (u m).entries e.2 ≤ allRefs u e.2 := sum_ge (fun k => refs (u k).entries e.2) 64 h64
      have h3 := R e.2
      rw [h.1, if_pos rfl, hcount.1, h.2] at h3
      rw [h.1] at h1 h2
      omega
    · exact e3
  · rw [K] at hm
    have h3 := R m
    split at hm
    · exact absurd rfl hm
    · next h =>
      obtain ⟨c1, c2⟩ := g.count m hm0 hm
      rw [L]
      by_cases h2 : m = a
      · rw [if_pos h2, ← h2]
        rw [if_pos h2.symm] at h3
        have : (t m).links ≠ 1 := fun h4 => h ⟨h2, by rw [← h2]; exact h4⟩
        omega
      · rw [if_neg h2]
        rw [if_neg (fun e => h2 e.symm)] at h3
        omega
  · rw [K] at hek
    split at hek
    · cases hek
    · exact hrk m e (sub m e he) hek

/-- One entry more of a file. -/
theorem Good.link {t : Tr} (g : Good t) {a d : Nat} {x : Txt} (ha : (t a).kind = 2) (hd : (t d).kind = 1) (hx : look (t d).entries x = none) (hnm : IsName x) :
    Good ((t.rows d (put (t d).entries x a)).set a ⟨(t a).kind, (t a).links + 1, (t a).data, (t a).entries⟩) := by
  have hd64 := g.lt (n := d) (by omega)
  have had : a ≠ d := fun e => by rw [e, hd] at ha; cases ha
  have ha0 : a ≠ 0 := fun e => by rw [e, g.root.1] at ha; cases ha
  have E : ∀ m, (((t.rows d (put (t d).entries x a)).set a ⟨(t a).kind, (t a).links + 1, (t a).data, (t a).entries⟩) m).entries = if m = d then put (t d).entries x a else (t m).entries := fun m => by
    by_cases h1 : m = a
    · rw [h1, Tr.set_same, if_neg had]
    · rw [Tr.set_other h1, Tr.rows_entries]
  have K : ∀ m, (((t.rows d (put (t d).entries x a)).set a ⟨(t a).kind, (t a).links + 1, (t a).data, (t a).entries⟩) m).kind = (t m).kind := fun m => by
    by_cases h1 : m = a
    · rw [h1, Tr.set_same]
    · rw [Tr.set_other h1, Tr.rows_kind]
  have L : ∀ m, (((t.rows d (put (t d).entries x a)).set a ⟨(t a).kind, (t a).links + 1, (t a).data, (t a).entries⟩) m).links = if m = a then (t a).links + 1 else (t m).links := fun m => by
    by_cases h1 : m = a
    · rw [h1, Tr.set_same, if_pos rfl]
    · rw [Tr.set_other h1, Tr.rows_links, if_neg h1]
  have D : ∀ m, (((t.rows d (put (t d).entries x a)).set a ⟨(t a).kind, (t a).links + 1, (t a).data, (t a).entries⟩) m).data = (t m).data := fun m => by
    by_cases h1 : m = a
    · rw [h1, Tr.set_same]
    · rw [Tr.set_other h1, Tr.rows_data]
  have hsame : ∀ m, m ≠ a → m ≠ d → ((t.rows d (put (t d).entries x a)).set a ⟨(t a).kind, (t a).links + 1, (t a).data, (t a).entries⟩) m = t m := fun m h1 h2 => by
    unfold Tr.rows
    rw [Tr.set_other h1, Tr.set_other h2]
  generalize (t.rows d (put (t d).entries x a)).set a ⟨(t a).kind, (t a).links + 1, (t a).data, (t a).entries⟩ = u at E K L D hsame
  have R : ∀ k, allRefs u k = allRefs t k + if a = k then 1 else 0 := fun k => by
    have := allRefs_change (t := t) (u := u) hd64 (fun m hm => by rw [E m, if_neg hm]) k
    rw [E d, if_pos rfl, refs_put] at this
    omega
  obtain ⟨rk, hrk⟩ := g.rank
  refine ⟨⟨?_, ?_⟩, fun m hm => ?_, fun m hm => ?_, fun m => ?_, fun m hm => ?_, fun m hm => ?_, fun m => ?_, fun m e he => ?_, fun m hm0 hm => ?_, ⟨rk, fun m e he hek => ?_⟩⟩
  · rw [K]; exact g.root.1
  · rw [L, if_neg (fun h => ha0 h.symm)]; exact g.root.2
  · rw [K]; exact g.top m hm
  · rw [K] at hm
    rw [hsame m (fun e => by rw [e, ha] at hm; cases hm) (fun e => by rw [e, hd] at hm; cases hm)]
    exact g.void m hm
  · rw [K]; exact g.kinds m
  · rw [K] at hm
    rw [L, D, if_neg (fun e => by rw [e, ha] at hm; cases hm)]
    exact g.dir m hm
  · rw [K] at hm
    rw [E, D, if_neg (fun e => by rw [e, hd] at hm; cases hm)]
    exact g.file m hm
  · rw [E]
    split
    · exact put_rising (g.rising d) hx a
    · exact g.rising m
  · rw [E] at he
    rw [K]
    split at he
    · rcases mem_put.1 he with rfl | he
      · exact ⟨hnm, ha0, by show (t a).kind ≠ 0; omega⟩
      · exact g.entry d e he
    · exact g.entry m e he
  · rw [K] at hm
    obtain ⟨c1, c2⟩ := g.count m hm0 hm
    rw [R, L]
    by_cases h2 : m = a
    · rw [if_pos h2, if_pos h2.symm, ← h2]
      omega
    · rw [if_neg h2, if_neg (fun e => h2 e.symm)]
      omega
  · rw [E] at he
    rw [K] at hek
    split at he
    · next h1 =>
      rcases mem_put.1 he with rfl | he
      · have hek : (t a).kind = 1 := hek
        rw [ha] at hek; cases hek
      · rw [h1]; exact hrk d e he hek
    · exact hrk m e he hek

theorem moved_entries (t : Tr) (a p : Nat) (x : Txt) (d : Nat) (y : Txt) (m : Nat) :
    (moved t a p x d y m).entries = if m = d then put (if d = p then drop (t p).entries x else (t d).entries) y a else if m = p then drop (t p).entries x else (t m).entries := by
  unfold moved
  rw [Tr.rows_entries, Tr.rows_entries, Tr.rows_entries]
theorem moved_kind (t : Tr) (a p : Nat) (x : Txt) (d : Nat) (y : Txt) (m : Nat) : (moved t a p x d y m).kind = (t m).kind := by
  unfold moved
  rw [Tr.rows_kind, Tr.rows_kind]
theorem moved_links (t : Tr) (a p : Nat) (x : Txt) (d : Nat) (y : Txt) (m : Nat) : (moved t a p x d y m).links = (t m).links := by
  unfold moved
  rw [Tr.rows_links, Tr.rows_links]
theorem moved_data (t : Tr) (a p : Nat) (x : Txt) (d : Nat) (y : Txt) (m : Nat) : (moved t a p x d y m).data = (t m).data := by
  unfold moved
  rw [Tr.rows_data, Tr.rows_data]
theorem moved_refs {t : Tr} (g : Good t) {a p d : Nat} {x y : Txt} (hl : look (t p).entries x = some a) (hd : (t d).kind = 1) (k : Nat) : allRefs (moved t a p x d y) k = allRefs t k := by
  have hp64 := g.lt (n := p) (by rw [g.isDir (look_mem hl)]; omega)
  have hd64 := g.lt (n := d) (by omega)
  have r1 := allRefs_change (t := t) (u := t.rows p (drop (t p).entries x)) hp64 (fun m hm => by rw [Tr.rows_entries, if_neg hm]) k
  rw [Tr.rows_entries, if_pos rfl, refs_drop (g.rising p) hl k] at r1
  have r2 := allRefs_change (t := t.rows p (drop (t p).entries x)) (u := moved t a p x d y) hd64 (fun m hm => by unfold moved; rw [Tr.rows_entries (t := t.rows p (drop (t p).entries x)), if_neg hm]) k
  have e : (moved t a p x d y d).entries = put ((t.rows p (drop (t p).entries x)) d).entries y a := by unfold moved; rw [Tr.rows_entries (t := t.rows p (drop (t p).entries x)), if_pos rfl]
  rw [e, refs_put] at r2
  omega

open Classical in
/-- An entry goes elsewhere: a directory not beneath itself. -/
theorem Good.move {t : Tr} (g : Good t) {a p d : Nat} {x y : Txt} (hl : look (t p).entries x = some a) (hd : (t d).kind = 1) (hy : look (t d).entries y = none) (hnm : IsName y) (hno : (t a).kind = 1 → ∀ rs, walk t a rs ≠ .ok d) :
    Good (moved t a p x d y) := by
  have hm := look_mem hl
  have hp := g.isDir hm
  obtain ⟨_, ha0, hak⟩ := g.entry p _ hm
  have E := moved_entries t a p x d y
  have K := moved_kind t a p x d y
  have L := moved_links t a p x d y
  have D := moved_data t a p x d y
  have R := moved_refs (x := x) (y := y) g hl hd
  generalize moved t a p x d y = u at E K L D R
  have hrise : Rising (if d = p then drop (t p).entries x else (t d).entries) := by
    split
    · exact drop_rising (g.rising p) x
    · exact g.rising d
  have hlook : look (if d = p then drop (t p).entries x else (t d).entries) y = none := by
    split
    · next h =>
      rw [look_drop]
      split
      · rfl
      · rw [← h]; exact hy
    · exact hy
  have mem : ∀ m, ∀ e ∈ (u m).entries, (m = d ∧ e = (y, a)) ∨ (e ∈ (t m).entries ∧ (m = p → e.1 ≠ x)) := fun m e he => by
    rw [E] at he
    split at he
    · next h1 =>
      rcases mem_put.1 he with rfl | he
      · exact Or.inl ⟨h1, rfl⟩
      · split at he
        · next h2 =>
          obtain ⟨q1, q2⟩ := mem_drop.1 he
          exact Or.inr ⟨by rw [h1, h2]; exact q1, fun _ => q2⟩
        · next h2 => exact Or.inr ⟨by rw [h1]; exact he, fun h3 => absurd (h1.symm.trans h3) h2⟩
    · split at he
      · next h2 =>
        obtain ⟨q1, q2⟩ := mem_drop.1 he
        exact Or.inr ⟨by rw [h2]; exact q1, fun _ => q2⟩
      · next h2 => exact Or.inr ⟨he, fun h3 => absurd h3 h2⟩
  obtain ⟨rk, hrk⟩ := g.rank
  refine ⟨⟨?_, ?_⟩, fun m hm => ?_, fun m hm => ?_, fun m => ?_, fun m hm => ?_, fun m hm => ?_, fun m => ?_, fun m e he => ?_, fun m hm0 hm => ?_, ⟨fun k => if (t a).kind = 1 ∧ ∃ rs, walk t a rs = .ok k then rk k + rk d + 1 else rk k, fun m e he hek => ?_⟩⟩
  · rw [K]; exact g.root.1
  · rw [L]; exact g.root.2
  · rw [K]; exact g.top m hm
  · rw [K] at hm
    have h1 := g.void m hm
    have he : (u m).entries = [] := by
      rw [E, if_neg (fun e => by rw [e, hd] at hm; cases hm), if_neg (fun e => by rw [e, hp] at hm; cases hm), h1]
      rfl
    have hk := K m
    have hl := L m
    have hdd := D m
    rw [h1] at hk hl hdd
    cases hu : u m with
    | mk k l dd ee =>
      rw [hu] at hk hl hdd he
      have hk : k = 0 := hk
      have hl : l = 0 := hl
      have hdd : dd = [] := hdd
      have he : ee = [] := he
      subst hk hl hdd he
      rfl
  · rw [K]; exact g.kinds m
  · rw [K] at hm
    rw [L, D]
    exact g.dir m hm
  · rw [K] at hm
    rw [E, D, if_neg (fun e => by rw [e, hd] at hm; cases hm), if_neg (fun e => by rw [e, hp] at hm; cases hm)]
    exact g.file m hm
  · rw [E]
    split
    · exact put_rising hrise hlook a
    · split
      · exact drop_rising (g.rising p) x
      · exact g.rising m
  · rw [K]
    rcases mem m e he with ⟨_, rfl⟩ | ⟨h, _⟩
    · exact ⟨hnm, ha0, hak⟩
    · exact g.entry m e h
  · rw [K] at hm
    rw [R, L]
    exact g.count m hm0 hm
  · rw [K] at hek
    show (if (t a).kind = 1 ∧ ∃ rs, walk t a rs = .ok m then rk m + rk d + 1 else rk m) < if (t a).kind = 1 ∧ ∃ rs, walk t a rs = .ok e.2 then rk e.2 + rk d + 1 else rk e.2
    rcases mem m e he with ⟨h1, rfl⟩ | ⟨h1, h2⟩
    · have hek : (t a).kind = 1 := hek
      rw [h1, if_neg (fun h => by obtain ⟨_, rs, hrs⟩ := h; exact hno hek rs hrs), if_pos ⟨hek, [], rfl⟩]
      omega
    · have hlt := hrk m e h1 hek
      have hmd := g.isDir h1
      have hle := look_of_mem (g.rising m) (x := e.1) (k := e.2) h1
      by_cases hb : (t a).kind = 1 ∧ ∃ rs, walk t a rs = .ok m
      · obtain ⟨ha1, rs, hrs⟩ := hb
        rw [if_pos ⟨ha1, rs, hrs⟩, if_pos ⟨ha1, rs ++ [e.1], walk_snoc_ok hrs hmd hle⟩]
        omega
      · rw [if_neg hb, if_neg]
        · exact hlt
        · rintro ⟨ha1, rs, hrs⟩
          rcases List.eq_nil_or_concat rs with rfl | ⟨rs', z, rfl⟩
          · rw [walk] at hrs
            injection hrs with hrs
            rw [← hrs] at hle
            obtain ⟨q1, q2⟩ := g.only ha1 hle hl
            exact h2 q1 q2
          · rw [List.concat_eq_append] at hrs
            obtain ⟨m', hm', _, hl'⟩ := walk_snoc hrs
            obtain ⟨q1, _⟩ := g.only hek hle hl'
            rw [← q1] at hm'
            exact hb ⟨ha1, rs', hm'⟩

/-- Other bytes in a file. -/
theorem Good.filled {t : Tr} (g : Good t) {a : Nat} {b : Txt} (ha : (t a).kind = 2) (hb : b.length ≤ 512) : Good (t.bytes a b) := by
  have E : ∀ m, (t.bytes a b m).entries = (t m).entries := fun m => by
    unfold Tr.bytes
    by_cases h : m = a
    · rw [h, Tr.set_same]
    · rw [Tr.set_other h]
  have K : ∀ m, (t.bytes a b m).kind = (t m).kind := fun m => by
    unfold Tr.bytes
    by_cases h : m = a
    · rw [h, Tr.set_same]
    · rw [Tr.set_other h]
  have L : ∀ m, (t.bytes a b m).links = (t m).links := fun m => by
    unfold Tr.bytes
    by_cases h : m = a
    · rw [h, Tr.set_same]
    · rw [Tr.set_other h]
  have D : ∀ m, (t.bytes a b m).data = if m = a then b else (t m).data := fun m => by
    unfold Tr.bytes
    by_cases h : m = a
    · rw [h, Tr.set_same, if_pos rfl]
    · rw [Tr.set_other h, if_neg h]
  have S : ∀ m, m ≠ a → t.bytes a b m = t m := fun m h => Tr.set_other h _
  generalize t.bytes a b = u at E K L D S
  have R := allRefs_same (t := t) (u := u) E
  obtain ⟨rk, hrk⟩ := g.rank
  refine ⟨⟨?_, ?_⟩, fun m hm => ?_, fun m hm => ?_, fun m => ?_, fun m hm => ?_, fun m hm => ?_, fun m => ?_, fun m e he => ?_, fun m hm0 hm => ?_, ⟨rk, fun m e he hek => ?_⟩⟩
  · rw [K]; exact g.root.1
  · rw [L]; exact g.root.2
  · rw [K]; exact g.top m hm
  · rw [K] at hm
    rw [S m (fun e => by rw [e, ha] at hm; cases hm)]
    exact g.void m hm
  · rw [K]; exact g.kinds m
  · rw [K] at hm
    rw [L, D, if_neg (fun e => by rw [e, ha] at hm; cases hm)]
    exact g.dir m hm
  · rw [K] at hm
    rw [E, D]
    refine ⟨(g.file m hm).1, ?_⟩
    split
    · exact hb
    · exact (g.file m hm).2
  · rw [E]; exact g.rising m
  · rw [E] at he
    rw [K]
    exact g.entry m e he
  · rw [K] at hm
    rw [R, L]
    exact g.count m hm0 hm
  · rw [E] at he
    rw [K] at hek
    exact hrk m e he hek
theorem good_new : Good newT := by
  have hE : ∀ m, (newT m).entries = [] := fun m => by unfold newT; split <;> rfl
  refine ⟨⟨rfl, rfl⟩, fun n h => ?_, fun n h => ?_, fun n => ?_, fun n h => ?_, fun n h => ?_, fun n => ?_, fun n e he => ?_, fun n h0 h => ?_, ⟨fun _ => 0, fun n e he _ => ?_⟩⟩
  · unfold newT; rw [if_neg (by omega)]; rfl
  · unfold newT at h ⊢
    split
    · next hh => rw [if_pos hh] at h; cases h
    · rfl
  · unfold newT; split <;> simp [noNode]
  · unfold newT at h ⊢
    split
    · exact ⟨rfl, rfl⟩
    · next hh => rw [if_neg hh] at h; cases h
  · unfold newT at h
    split at h <;> cases h
  · rw [hE]; exact List.Pairwise.nil
  · rw [hE] at he; cases he
  · unfold newT at h
    rw [if_neg h0] at h
    exact absurd rfl h
  · rw [hE] at he; cases he
end Go.Proofs.YtlkiaghpdjbfeaaGreatDoor
