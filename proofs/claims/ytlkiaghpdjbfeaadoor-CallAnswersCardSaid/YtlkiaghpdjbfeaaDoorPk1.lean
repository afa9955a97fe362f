/-
  Rows of texts that lie in memory, and what a call keeps that only lays new memory. It speaks of no program.
  WALKS: the writer as it grows, in one word.
  A loop over a function whose rounds and whose iterator both change memory: the caller says what holds ahead of each step (I), what holds when an element has been found and is about to be handed over (M), and what holds at the end (D). It speaks of no program. Only loops whose body is left at its end.
  WALKS: slices.Values of texts: its iterator, by whatever state the caller keeps; octet.PutList of texts.
  WALKS: summed.Put, by whatever the function that it is handed puts.
  WALKS of package octet, the reader's other calls: count, Bytes, Byte, Int, Flag, Left, End; the writer's count, Bytes, Flag, Int.
  WALKS: call.Encode.
  A row of texts that the call owns: built, appended to, read. It speaks of no program.
  append onto a row of texts of the call's own, inside a fence. It speaks of no program.
  What holds of every tree that calls lead to: each node is of as many entries as it has links, each directory but the root of one, and all directories stand beneath the root. Over no program.
  Rows of entries in memory: two cells each, a text and a number. It speaks of no program.
  The document's tree, as the reference holds it: one block of 64 nodes of five cells each; what is read of it.
-/
import Derived.Test.YtlkiaghpdjbfeaaDoorPk0
import Derived.Lib.SliceRun
import Derived.Lib.ConvBytes
import Derived.RangeFuncWrites
import Derived.RangeFuncCalls
import Derived.RangeFuncLeaves
import Derived.RangeFuncRecord
import Derived.RangeFuncSeq
import Derived.Shelf.Abstract
import Derived.Shelf.RegionOpen
import Derived.OwnWalkIn
import Derived.TacticsInMore
import Derived.LoopNIn
import Derived.LoopIn
import Derived.BigFrame
import Derived.Test.YtlkiaghpdjbfeaaDoorChecked
import Derived.Deep.LoopGhost
import Derived.Handy
namespace Go.Proofs.YtlkiaghpdjbfeaaDoor
open Go.RowKit

/-- Whatever was there is as it was. -/
abbrev KF (a w : World) : Prop := Keep (fun _ => False) a w
section
variable {a b c w : World}
theorem KF.refl (a : World) : KF a a := Keep.refl _ a
theorem KF.trans (h : KF a b) (k : KF b c) : KF a c := Keep.trans h k fun _ _ h => h
theorem KF.of_below (h : Below a.heap.size a w) : KF a w := Keep.of_below h _
theorem KF.below (h : KF a w) : Below a.heap.size a w := Keep.below h (Nat.le_refl _) fun _ _ h => h
theorem KF.cell (h : KF a w) {p : Addr} (hp : p.block < a.heap.size) : w.cell? p = a.cell? p := Keep.cell h hp fun h => h
end

/-- From the address A on, in blocks below B, the cells hold the texts xs. -/
def Strs (w : World) (B : Nat) (A : Option Addr) (xs : List ByteArray) : Prop :=
  ∀ j x, xs[j]? = some x → ∃ b o, A = some ⟨b, o, none⟩ ∧ b < B ∧ w.cell? ⟨b, o + j, none⟩ = some (.string x)
section
variable {w w' : World} {A : Option Addr} {xs : List ByteArray} {B B' : Nat}
theorem Strs.nil : Strs w B A [] := fun j x h => by simp at h
theorem Strs.keep (h : Strs w B A xs) (hB : B ≤ w.heap.size) (k : KF w w') : Strs w' B A xs := fun j x hj => by
  obtain ⟨b, o, rfl, hb, hc⟩ := h j x hj
  exact ⟨b, o, rfl, hb, (k.cell (by show b < _; omega)).trans hc⟩
theorem Strs.more (h : Strs w B A xs) (hB : B ≤ B') : Strs w B' A xs := fun j x hj => by
  obtain ⟨b, o, rfl, hb, hc⟩ := h j x hj
  exact ⟨b, o, rfl, by omega, hc⟩
theorem Strs.kept (h : Strs w w.heap.size A xs) (k : KF w w') : Strs w' w'.heap.size A xs := (h.keep (Nat.le_refl _) k).more k.size
theorem Strs.take (h : Strs w B A xs) (n : Nat) : Strs w B A (xs.take n) := fun j x hj => h j x (by
  rw [List.getElem?_take] at hj
  split at hj
  · exact hj
  · cases hj)
theorem Strs.drew (h : Strs w B A xs) : Strs w.drew B A xs := h
theorem Strs.drewN (h : Strs w B A xs) (n : Nat) : Strs (w.drewN n) B A xs := h
theorem Strs.head (h : Strs w B A xs) (hn : 0 < xs.length) : ∃ b o, A = some ⟨b, o, none⟩ ∧ b < B := by
  obtain ⟨b, o, rfl, hb, _⟩ := h 0 _ (List.getElem?_eq_getElem hn)
  exact ⟨b, o, rfl, hb⟩
theorem Strs.at_ {b o : Nat} (h : Strs w B (some ⟨b, o, none⟩) xs) {j : Nat} {x : ByteArray} (hj : xs[j]? = some x) : w.cell? ⟨b, o + j, none⟩ = some (.string x) := by
  obtain ⟨b', o', e, _, hc⟩ := h j x hj
  injection e with e
  injection e with e1 e2
  subst e1 e2
  exact hc
end
theorem ba_data (x : ByteArray) : ba x.data.toList = x := by cases x; rfl
theorem ba_inj {l m : Txt} (h : ba l = ba m) : l = m := by
  have := congrArg (fun b => b.data.toList) h
  simpa using this
theorem ba_ext {x y : ByteArray} : x.data.toList = y.data.toList ↔ x = y :=
  ⟨fun h => by rw [← ba_data x, ← ba_data y, h], fun h => by rw [h]⟩
theorem ba_size (l : Txt) : (ba l).size = l.length := by simp [ByteArray.size]
theorem size_len (x : ByteArray) : x.size = x.data.toList.length := Lib.size_eq x
end Go.Proofs.YtlkiaghpdjbfeaaDoor

namespace Go.Proofs.YtlkiaghpdjbfeaaDoor
open Go.RowKit

/-- '[]byte(s)': a new row. -/
theorem conv_text (w : World) (s : ByteArray) : (convert 9 26 (.string s)).run Tryd.prog w = .ok (.slice (some ⟨w.heap.size, 0, none⟩) s.size (grownCap w s.size 0 5)) (Lib.bytesWorld w 5 s) :=
  Lib.run_convert_string_bytes w _ _ _ s Tryd.underlying9 Tryd.underlying26 Tryd.underlying5
theorem kf_bytes (w : World) (E : TypeId) (s : ByteArray) : KF w (Lib.bytesWorld w E s) :=
  ⟨rfl, rfl, rfl, by rw [Lib.bytesWorld_size]; omega, fun k hk _ => Lib.bytesWorld_at_old w E s k hk⟩
theorem rd_bytes (w : World) (E : TypeId) (s : ByteArray) : Rd (Lib.bytesWorld w E s) (w.heap.size + 1) (some ⟨w.heap.size, 0, none⟩) s.data.toList := fun j b hj => by
  have hlt : j < s.data.toList.length := by
    rcases Nat.lt_or_ge j s.data.toList.length with h | h
    · exact h
    · rw [List.getElem?_eq_none h] at hj; cases hj
  refine ⟨_, rfl, Nat.lt_succ_self _, ?_⟩
  rw [show (⟨w.heap.size, 0, none⟩ : Addr).add j = ⟨w.heap.size, j, none⟩ by unfold Addr.add; split <;> simp_all, Lib.bytesWorld_cell w E s j (by rw [size_len]; exact hlt), List.getD, hj]
  rfl

/-- The writer in block g has put l; since the world a only its own blocks have turned. -/
def Wn (a w : World) (g : Nat) (l : List UInt8) : Prop := ∃ v, Wr w g v l ∧ Keep (fun k => k = g) a w ∧ NB a v
theorem Wn.keep {a w : World} {g : Nat} {l : List UInt8} (h : Wn a w g l) : Keep (fun k => k = g) a w := by
  obtain ⟨_, _, k, _⟩ := h
  exact k
theorem Wn.lt {a w : World} {g : Nat} {l : List UInt8} (h : Wn a w g l) : g < w.heap.size := by
  obtain ⟨_, hw, _, _⟩ := h
  exact hw.lt
theorem Wn.later {a w w' : World} {g : Nat} {l : List UInt8} (h : Wn a w g l) (k : KF w w') : Wn a w' g l := by
  obtain ⟨v, hw, hk, hn⟩ := h
  exact ⟨v, hw.kept k (fun h => h) (fun _ _ h => h), hk.trans k (fun _ _ h => h.elim), hn⟩
theorem Wn.call {a w : World} {g : Nat} {l l' : List UInt8} {f : FuncId} {args : Array Value} (h : Wn a w g l) (hc : ∀ v, Wr w g v l → NB a v → Calls Tryd.prog f args w (Put w g v l')) :
    Calls Tryd.prog f args w fun e w' => e = .returned (.tuple #[]) ∧ Wn a w' g l' := by
  obtain ⟨v, hw, hk, hn⟩ := h
  refine (hc v hw hn).mono ?_
  rintro e w' ⟨rfl, v', hw', hk', hf⟩
  refine ⟨rfl, v', hw', hk.trans hk' ?_, fun k hk2 => ?_⟩
  · rintro i hi (h | h)
    · exact h
    · have := hn i h
      omega
  · rcases hf with hf | ⟨k', hk', hle⟩
    · exact hn k (hf ▸ hk2)
    · rw [hk'] at hk2
      injection hk2 with hk2
      have := hk.size
      omega
theorem Wn.byte {a w : World} {g : Nat} {l : List UInt8} (h : Wn a w g l) (b : UInt8) (hb : l.length ≤ 35184372088832) :
    Calls Tryd.prog 28 #[.pointer (some ⟨g, 0, none⟩), .int .u8 b.toNat] w fun e w' => e = .returned (.tuple #[]) ∧ Wn a w' g (l ++ [b]) :=
  h.call fun v hw _ => byte_any g v l b w hw (by omega)
set_option maxHeartbeats 400000 in
theorem wint_any (g : Nat) (v : Value) (l : List UInt8) (z : Int) (w : World) (h : Wr w g v l) (hb : l.length ≤ 35184372088832) :
    Calls Tryd.prog 19 #[.pointer (some ⟨g, 0, none⟩), .int .i64 z] w (Put w g v (l ++ be (u64 z) 8)) := by
  have N0 := number_any g v l (u64 z) 8 w h (u64_lt z) (by omega)
  rw [show sz 8 = 8 by decide] at N0
  have hz : IntKind.u64.wrap z = (u64 z : Int) := by rw [IntKind.wrap_u64]; unfold u64; omega
  generalize u64 z = x at *
  have N := Lib.hid N0
  clear N0
  go_enter Tryd.func19, Tryd.ntmps19
  go_wp2_with fail
  refine N.out.mono ?_
  rintro e w1 ⟨rfl, h1⟩
  go_wp2
  go_end0
  exact ⟨rfl, h1⟩
theorem Wn.int {a w : World} {g : Nat} {l : List UInt8} (h : Wn a w g l) (z : Int) (hb : l.length ≤ 35184372088832) :
    Calls Tryd.prog 19 #[.pointer (some ⟨g, 0, none⟩), .int .i64 z] w fun e w' => e = .returned (.tuple #[]) ∧ Wn a w' g (l ++ be (u64 z) 8) :=
  h.call fun v hw _ => wint_any g v l z w hw hb
theorem Wn.count {a w : World} {g : Nat} {l : List UInt8} (h : Wn a w g l) (n : Nat) (hn : n ≤ 1000000000) (hb : l.length ≤ 35184372088832) :
    Calls Tryd.prog 49 #[.pointer (some ⟨g, 0, none⟩), .int .i64 n] w fun e w' => e = .returned (.tuple #[]) ∧ Wn a w' g (l ++ be n 4) :=
  h.call fun v hw _ => wcount_any g v l n w hw (by omega) (by omega)
theorem Wn.bytes {a w : World} {g : Nat} {l : List UInt8} (h : Wn a w g l) (A : Option Addr) (m : List UInt8) (c : Nat) (hm : m.length ≤ 1000000000) (hb : l.length ≤ 35184372088832) (B : Nat) (hr : Rd w B A m) (hB : B ≤ g) (hBa : B ≤ a.heap.size) :
    Calls Tryd.prog 20 #[.pointer (some ⟨g, 0, none⟩), .slice A m.length c] w fun e w' => e = .returned (.tuple #[]) ∧ Wn a w' g (l ++ tx m) := by
  have e : l ++ tx m = l ++ be m.length 4 ++ m := by unfold tx; rw [List.append_assoc]
  rw [e]
  have hlt := h.lt
  refine h.call fun v hw hn => wbytes_any g v l m A m.length c w hw rfl (by omega) hb B hr (by omega) ?_
  rintro x hx h0 (h' | h')
  · obtain ⟨y, hy, hyb⟩ := hr.some_of h0
    rw [hy] at hx
    injection hx with hx
    subst hx
    omega
  · obtain ⟨y, hy, hyb⟩ := hr.some_of h0
    rw [hy] at hx
    injection hx with hx
    subst hx
    have := hn _ h'
    omega
theorem Wn.text {a w : World} {g : Nat} {l : List UInt8} (h : Wn a w g l) (s : ByteArray) (c : Nat) (hm : s.size ≤ 1000000000) (hb : l.length ≤ 35184372088832) :
    Calls Tryd.prog 20 #[.pointer (some ⟨g, 0, none⟩), .slice (some ⟨w.heap.size, 0, none⟩) s.size c] (Lib.bytesWorld w 5 s) fun e w' => e = .returned (.tuple #[]) ∧ Wn a w' g (l ++ tx s.data.toList) := by
  have e : l ++ tx s.data.toList = l ++ be s.size 4 ++ s.data.toList := by unfold tx; rw [List.append_assoc, ← size_len]
  rw [e]
  have hlt := h.lt
  have hold : ∀ v, Wr w g v l → ∀ k, v.ownBlock = some k → k < w.heap.size := fun v hw => hw.own.lt
  have hk := h.keep.size
  have key : ∀ v, Wr w g v l → Wr (Lib.bytesWorld w 5 s) g v l := fun v hw => hw.kept (kf_bytes w _ s) (fun h => h) (fun _ _ h => h)
  obtain ⟨v0, hw0, hk0, hn0⟩ := h
  have := Wn.call (a := a) (w := Lib.bytesWorld w 5 s) (g := g) (l := l) (Wn.later ⟨v0, hw0, hk0, hn0⟩ (kf_bytes w _ s)) (f := 20) (args := #[.pointer (some ⟨g, 0, none⟩), .slice (some ⟨w.heap.size, 0, none⟩) s.size c]) (l' := l ++ be s.size 4 ++ s.data.toList) (fun v hw hn => by
    refine wbytes_any g v l s.data.toList (some ⟨w.heap.size, 0, none⟩) s.size c _ hw (size_len s) (by rw [← size_len]; omega) hb (w.heap.size + 1) (rd_bytes w _ s) (by rw [Lib.bytesWorld_size]; omega) ?_
    have hv : v = v0 := by
      have h1 := hw.block
      rw [(key v0 hw0).block] at h1
      simp only [Option.some.injEq, Obj.cells.injEq, Array.mk.injEq, List.cons.injEq, and_true] at h1
      exact h1.symm
    subst hv
    rintro x hx _ (h' | h')
    · injection hx with hx
      subst hx
      simp only at h'
      omega
    · injection hx with hx
      subst hx
      have := hold v hw0 _ h'
      simp only at this
      omega)
  exact this
theorem Wn.txt {a w : World} {g : Nat} {l : List UInt8} (h : Wn a w g l) (p : Txt) (c : Nat) (hm : p.length ≤ 1000000000) (hb : l.length ≤ 35184372088832) :
    Calls Tryd.prog 20 #[.pointer (some ⟨g, 0, none⟩), .slice (some ⟨w.heap.size, 0, none⟩) p.length c] (Lib.bytesWorld w 5 (ba p)) fun e w' => e = .returned (.tuple #[]) ∧ Wn a w' g (l ++ tx p) := by
  have h1 := h.text (ba p) c (by rw [ba_size]; exact hm) hb
  rw [ba_size] at h1
  exact h1

/-- The six cells of a call. -/
theorem six_cells {w : World} {g : Nat} {T : TypeId} {v0 v1 v2 v3 v4 v5 : Value} (h : w.heap[g]? = some (.cells #[v0, v1, v2, v3, v4, v5] T)) :
    w.cell? ⟨g, 0, none⟩ = some v0 ∧ w.cell? ⟨g, 1, none⟩ = some v1 ∧ w.cell? ⟨g, 2, none⟩ = some v2 ∧ w.cell? ⟨g, 3, none⟩ = some v3 ∧ w.cell? ⟨g, 4, none⟩ = some v4 ∧ w.cell? ⟨g, 5, none⟩ = some v5 := by
  refine ⟨?_, ?_, ?_, ?_, ?_, ?_⟩ <;> simp [World.cell?, h]
end Go.Proofs.YtlkiaghpdjbfeaaDoor

namespace Go.Proofs.YtlkiaghpdjbfeaaDoor
open Go.RowKit

/-- What is said of a world stays when a loop's record, or what is deferred, is laid over. -/
def Stands (B : Nat) (S : World → Prop) : Prop := ∀ X k o o', B ≤ k → X.heap[k]? = some o → o.isCells = false → S X → S (X.putObj k o')
/-- What a loop's own steps keep: whatever is no cells. -/
theorem keepsFrom_of {S : Nat → Prop} {X Y : World} (k : Keep S X Y) (hS : ∀ i, S i → ∃ cs t fr, X.heap[i]? = some (.cells cs t fr)) (B : Nat) : KeepsFrom B X Y :=
  ⟨k.size, fun i o _ hi ho => (k.block i (Array.getElem?_eq_some_iff.1 hi).1 (fun h => by
    obtain ⟨cs, t, fr, e⟩ := hS i h
    rw [hi] at e
    injection e with e
    rw [e] at ho
    cases ho)).trans hi⟩
/-- A record laid over. -/
theorem keep_put (X : World) (k : Nat) (o : Obj) : Keep (fun i => i = k) X (X.putObj k o) :=
  ⟨rfl, rfl, rfl, Nat.le_of_eq World.putObj_size.symm, fun _i _ hn => World.putObj_heap_other hn⟩
theorem Keep.ofSet {S : Nat → Prop} {X : World} {p : Addr} (h : S p.block) (u : Value) : Keep S X (X.setCell p u) := (Keep.refl S X).setCell (.inr h) u
/-- The record of a loop stands in block l, ready; behind block d nothing is deferred. -/
structure Book (r : Loop) (l d : Nat) (X : World) : Prop where
  loop : X.heap[l]? = some (.loop r)
  rest : X.heap[d]? = some (.deferred (some []))
theorem Book.kept {r : Loop} {l d B : Nat} {X Y : World} (h : Book r l d X) (hl : B ≤ l) (hd : B ≤ d) (k : KeepsFrom B X Y) : Book r l d Y :=
  ⟨k.same _ _ hl h.loop rfl, k.same _ _ hd h.rest rfl⟩
theorem Book.over {r r' : Loop} {l d : Nat} {X : World} (h : Book r l d X) (hne : d ≠ l) : Book r' l d (X.putObj l (.loop r')) :=
  ⟨World.putObj_heap_same (Array.getElem?_eq_some_iff.1 h.loop).1, (World.putObj_heap_other hne).trans h.rest⟩

/-- One round: the body is walked to its end, and yield says 'go on'. -/
theorem round_law {F : Fence} {m : Nat} {P : Program} {_α : Type} {fn : FuncId} (hfn : F.fn fn) {r : Loop} {l d B : Nat} (hr : r.fn = fn) (hrs : r.state = .ready) (hrp : r.pending = none) (hl : B ≤ l) (hd : B ≤ d) (hne : d ≠ l)
    {encs : Array Value} (hps : encs.size = r.params.size) {S T : World → Prop} (hS : Stands B S) (hT : Stands B T) {a₁ : Act}
    (hassign : ∀ (W : World) (K : Act → World → Prop), K a₁ W → r.assign.wpIn (F.inRound l) m P (Exit.then K (fun _ _ _ => False)) { tmps := (r.params.zip encs).foldl (fun t (p, v) => t.setIfInBounds p v) r.tmps, defers := [] } W)
    (hbody : ∀ W, S W → r.body.wpIn (F.inRound l) m P (fun e _ Y => e = .normal ∧ KeepsFrom B W Y ∧ T Y) a₁ W)
    {W : World} (hw : S W) (hb : Book r l d W) : YieldAt F m P l encs W fun e Y => e = .returned (.bool true) ∧ T Y ∧ Book r l d Y := by
  have hy := run_yield (P := P) (args := encs) hb.loop hps
  rw [hr] at hy
  refine ⟨fn, _, _, _, hy, roundIn_of_wpIn hfn (hassign W _ ⟨_, run_beginRound hb.loop hrs, ?_⟩)⟩
  have b1 : Book { r with state := .busy } l d (W.putObj l (.loop { r with state := .busy })) := hb.over hne
  refine wpIn_mono (hbody _ (hS _ _ _ _ hl hb.loop rfl hw)) ?_
  rintro e a3 Y ⟨rfl, hk, ht⟩
  have b2 := b1.kept hl hd hk
  have he := run_endRound (P := P) none b2.loop
  have er : { ({ r with state := LoopState.busy } : Loop) with state := (if (none : Option Code).isNone = true then LoopState.ready else .done), pending := (none : Option Code) } = r := by
    cases r
    simp only at hrs hrp
    subst hrs hrp
    rfl
  rw [er] at he
  exact ⟨_, _, he, rfl, hT _ _ _ _ hl b2.loop rfl ht, b2.over hne⟩

theorem range_law {F : Fence} {n : Nat} {P : Program} {α : Type} {g : Operand} {ps : Array Tmp} {assign body : Code} {Q : Exit → Act → World → Prop} {a : Act} {w : World}
    (hro : F.round = none) (h1 : 1 ≤ n) {gf : Nat} {lb : Array Value} (hg : a.eval g = .func (.func gf) #[] lb) (hF : F.fn gf) (eg : ∀ args w, (callFunc gf args).run P w = .ok (.enter gf args) w)
    {encs : α → Array Value} (hps : ∀ x, (encs x).size = ps.size) (I : List α → World → Prop) (M : List α → α → World → Prop) (D : List α → World → Prop)
    (hI : ∀ pre, Stands w.heap.size (I pre)) (hM : ∀ pre x, Stands w.heap.size (M pre x)) (hD : ∀ xs, Stands w.heap.size (D xs)) (h0 : ∀ o o', I [] ((w.alloc o).alloc o')) (a₁ : α → Act)
    (hassign : ∀ (l : Nat) (x : α) (W : World) (K : Act → World → Prop), K (a₁ x) W → assign.wpIn (F.inRound l) (n - 1 - 1) P (Exit.then K (fun _ _ _ => False)) { tmps := (ps.zip (encs x)).foldl (fun t (p, v) => t.setIfInBounds p v) a.tmps, defers := [] } W)
    (hbody : ∀ (l : Nat) (pre : List α) (x : α) (W : World), M pre x W → body.wpIn (F.inRound l) (n - 1 - 1) P (fun e _ Y => e = .normal ∧ KeepsFrom w.heap.size W Y ∧ I (pre ++ [x]) Y) (a₁ x) W)
    (hiter : ∀ (l : Nat) (W : World) (BK : World → Prop), (∀ X Y, BK X → KeepsFrom w.heap.size X Y → BK Y) → (∀ pre x X, M pre x X → BK X → YieldAt F (n - 1 - 1) P l (encs x) X fun e Y => e = .returned (.bool true) ∧ I (pre ++ [x]) Y ∧ BK Y) →
      I [] W → BK W → CallsIn F (n - 1) P gf (#[.func (.yield l) #[] #[]] ++ lb) W fun e Y => (∃ v, e = .returned v) ∧ BK Y ∧ ∃ xs, D xs Y)
    (hdone : ∀ (d : Nat) (xs : List α) (X : World), w.heap.size ≤ d → D xs X → X.heap[d]? = some (.deferred (some [])) → Q .normal { a with defers := { target := .collected d, args := #[] } :: a.defers } X) :
    (Code.rangeFunc g ps assign body).wpIn F n P Q a w := by
  refine wpIn_rangeFunc fun fn hfn => ?_
  rw [hro]
  obtain ⟨r, hr⟩ : ∃ r : Loop, r = { state := .ready, pending := none, fn, tmps := a.tmps, params := ps, assign, body, defers := w.heap.size } := ⟨_, rfl⟩
  obtain ⟨V, hV⟩ : ∃ V, (w.alloc (.deferred (some []))).alloc (.loop r) = V := ⟨_, rfl⟩
  have bV : Book r (w.heap.size + 1) w.heap.size V := by
    subst hV
    refine ⟨?_, (Below.heap_alloc _ _ _ (by simp)).trans (World.alloc_heap_new w _)⟩
    have := World.alloc_heap_new (w.alloc (.deferred (some []))) (.loop r)
    rwa [World.size_alloc] at this
  have hen := run_enterLoop_outer (P := P) (w := w) fn a.tmps ps assign body
  rw [← hr, hV] at hen
  refine ⟨w.heap.size + 1, _, V, { target := .fn (.func gf) lb, args := #[.func (.yield (w.heap.size + 1)) #[] #[]] }, V, gf, #[.func (.yield (w.heap.size + 1)) #[] #[]] ++ lb, V, hen, ?_, ?_, ?_, fun _ => h1, ?_⟩
  · simp only [resolve, hg]
    simp [go_sem]
  · intro f' h
    simp [Target.leads] at h
    subst h
    exact hF
  · simp [invoke, go_sem, eg]
  · refine (hiter (w.heap.size + 1) V (Book r (w.heap.size + 1) w.heap.size) (fun X Y h k => h.kept (by omega) (Nat.le_refl _) k) (fun pre x X hm hb => ?_) (hV ▸ h0 _ _) bV).mono ?_
    · refine round_law (_α := α) hfn (by rw [hr]) (by rw [hr]) (by rw [hr]) (B := w.heap.size) (by omega) (Nat.le_refl _) (by omega) (by rw [hr]; exact hps x) (hM pre x) (hI _) (a₁ := a₁ x) ?_ ?_ hm hb
      · intro W K hK
        rw [hr]
        exact hassign _ x W K hK
      · intro W hW
        rw [hr]
        exact hbody _ pre x W hW
    · rintro e Y ⟨⟨v, rfl⟩, hb, xs, hd⟩
      have he := run_endLoop (P := P) hb.loop (by rw [hr]; simp)
      refine ⟨_, _, he, ?_⟩
      have hp : r.pending = none := by rw [hr]
      rw [hp]
      exact hdone _ xs _ (Nat.le_refl _) (hD xs _ _ _ _ (by omega) hb.loop rfl hd) ((World.putObj_heap_other (by omega)).trans hb.rest)
end Go.Proofs.YtlkiaghpdjbfeaaDoor

namespace Go.Proofs.YtlkiaghpdjbfeaaDoor
open Go.RowKit Go.Shelf
attribute [local go_sem] Oper.semAt_some

def VI {α : Type} (xs : List α) (S : Nat → World → Prop) (pre : List α) (X : World) : Prop := (∃ rest, xs = pre ++ rest) ∧ S pre.length X
def VM {α : Type} (xs : List α) (S : Nat → World → Prop) (pre : List α) (x : α) (X : World) : Prop := (∃ rest, xs = pre ++ x :: rest) ∧ S pre.length X
def VD {α : Type} (xs : List α) (S : Nat → World → Prop) (pre : List α) (X : World) : Prop := xs = pre ∧ S pre.length X
theorem VI.stands {α : Type} {xs : List α} {b : Nat} {S : Nat → World → Prop} {pre : List α} (hS : ∀ k, Stands b (S k)) : Stands b (VI xs S pre) := fun X i o o' hi ho hc h => ⟨h.1, hS _ X i o o' hi ho hc h.2⟩
theorem VM.stands {α : Type} {xs : List α} {b : Nat} {S : Nat → World → Prop} {pre : List α} {x : α} (hS : ∀ k, Stands b (S k)) : Stands b (VM xs S pre x) := fun X i o o' hi ho hc h => ⟨h.1, hS _ X i o o' hi ho hc h.2⟩
theorem VD.stands {α : Type} {xs : List α} {b : Nat} {S : Nat → World → Prop} {pre : List α} (hS : ∀ k, Stands b (S k)) : Stands b (VD xs S pre) := fun X i o o' hi ho hc h => ⟨h.1, hS _ X i o o' hi ho hc h.2⟩

theorem values_any (A : Option Addr) (n c : Nat) (w : World) :
    Calls Tryd.prog 50 #[.slice A n c] w fun e w' => e = .returned (.func (.func 64) #[] #[.pointer (some ⟨w.heap.size, 0, none⟩)]) ∧ w.alloc (.cells #[.slice A n c] 31) = w' := by
  go_enter Tryd.func50, Tryd.ntmps50
  go_wp2
  go_ret
  exact ⟨rfl, rfl⟩
set_option maxRecDepth 100000 in
set_option maxHeartbeats 1000000 in
theorem iter_vals (xs : List Txt) (S : Nat → World → Prop) (bv : Nat) (A : Option Addr) (n c : Nat) (hn : n = xs.length) (hn9 : n ≤ 4611686018427387904)
    (hSv : ∀ k X, S k X → X.heap[bv]? = some (.cells #[.slice A n c] 31 (0, 0))) (hSs : ∀ k X, S k X → Strs X X.heap.size A (xs.map ba)) (l : Nat) (BK : World → Prop)
    (hY : ∀ pre x X, VM xs S pre x X → BK X → YieldAt Fence.wide (3 - 1 - 1) Tryd.prog l #[.string (ba x)] X fun e Y => e = .returned (.bool true) ∧ VI xs S (pre ++ [x]) Y ∧ BK Y)
    (W : World) (h0 : VI xs S [] W) (hb : BK W) :
    CallsIn Fence.wide (3 - 1) Tryd.prog 64 #[.func (.yield l) #[] #[], .pointer (some ⟨bv, 0, none⟩)] W fun e Y => (∃ v, e = .returned v) ∧ BK Y ∧ ∃ ys, VD xs S ys Y := by
  have hcV : W.cell? ⟨bv, 0, none⟩ = some (.slice A n c) := by simp [World.cell?, hSv _ _ h0.2]
  have HN := Lib.hid hn
  clear hn
  refine callsIn_of_wp Tryd.func64 rfl trivial ?_ rfl
  simp only [Tryd.ntmps64, List.size_toArray, List.length_cons, List.length_nil, Nat.reduceAdd, Nat.reduceSub, Array.replicate_succ, Array.replicate_zero, List.push_toArray, List.append_toArray, List.nil_append, List.cons_append]
  gi_wp2
  gi_loopw [7] (fun i wr => ∃ pre : List Txt, i = .int .i64 pre.length ∧ VI xs S pre wr ∧ BK wr) (fun i _ => n - (intOf i).toNat)
  case atStart => exact ⟨[], rfl, h0, hb⟩
  case round =>
    obtain ⟨pre, rfl, ⟨⟨rest, hr⟩, hS⟩, hB⟩ := hrel
    rcases rest with _ | ⟨x, rest⟩
    · have hlen : xs.length = pre.length := by rw [hr]; simp
      have hcond : ¬ ((pre.length : Int) < n) := by have := HN.out; omega
      have HD := Lib.hid (show VD xs S pre wr from ⟨by rw [hr]; simp, hS⟩)
      clear hr hlen hS
      gi_wp2
      go_end0
      exact ⟨⟨_, rfl⟩, hB, pre, HD.out⟩
    · have hlen : xs.length = pre.length + (rest.length + 1) := by rw [hr]; simp
      have hcond : ((pre.length : Int) < n) := by have := HN.out; omega
      have hx : (xs.map ba)[pre.length]? = some (ba x) := by rw [hr]; simp
      obtain ⟨b, o, rfl, hbb, hcell⟩ := hSs _ _ hS pre.length (ba x) hx
      have hM : VM xs S pre x wr := ⟨⟨rest, hr⟩, hS⟩
      obtain ⟨fn, tmps, assign, body, hy, hR⟩ := hY pre x wr hM hB
      have HNL := Lib.hid hlen
      clear hr hlen hx hM
      gi_wp2
      refine hR.mono ?_
      rintro e w2 ⟨rfl, hI2, hB2⟩
      clear hR hy
      gi_wp2
      refine ⟨⟨pre ++ [x], by simp, hI2, hB2⟩, ?_⟩
      have h1 := HN.out
      have h2 := HNL.out
      simp only [intOf]
      omega

theorem Own.cells_ {E : TypeId} {w : World} {v : Value} {l : List UInt8} (h : Own E w v l) {i : Nat} (hi : v.ownBlock = some i) : ∃ cs, w.heap[i]? = some (.cells cs E (0, 0)) := by
  rcases h.2 with ⟨rfl, _⟩ | ⟨g, cap, cur, rfl, _, hg, _⟩
  · simp [Value.ownBlock] at hi
  · simp [Value.ownBlock] at hi
    subst hi
    exact ⟨_, hg⟩
theorem Strs.keepB {S : Nat → Prop} {w w' : World} {B : Nat} {A : Option Addr} {xs : List ByteArray} (h : Strs w B A xs) (hB : B ≤ w.heap.size) (k : Keep S w w') (hS : ∀ i, i < B → ¬ S i) : Strs w' w'.heap.size A xs := fun j x hj => by
  obtain ⟨b, o, rfl, hb, hc⟩ := h j x hj
  exact ⟨b, o, rfl, by have := k.size; omega, (k.cell (p := ⟨b, o + j, none⟩) (by show b < _; omega) (hS b hb)).trans hc⟩
/-- The state of a list that is put: the writer has put L; the three boxes. -/
structure PS (w : World) (g bw bo bv : Nat) (tw tO tv : TypeId) (v0 : Value) (F : Nat) (A : Option Addr) (n c : Nat) (L : List UInt8) (X : World) : Prop where
  wr : ∃ v, Wr X g v L ∧ (v.ownBlock = v0.ownBlock ∨ ∃ k, v.ownBlock = some k ∧ w.heap.size ≤ k)
  keep : Keep (WS g v0) w X
  cw : X.heap[bw]? = some (.cells #[.pointer (some ⟨g, 0, none⟩)] tw (0, 0))
  co : X.heap[bo]? = some (.cells #[.func (.func F) #[] #[]] tO (0, 0))
  cv : X.heap[bv]? = some (.cells #[.slice A n c] tv (0, 0))
section
variable {w : World} {g bw bo bv : Nat} {tw tO tv : TypeId} {v0 : Value} {F : Nat} {A : Option Addr} {n c : Nat} {L L' : List UInt8} {X Y : World}
theorem PS.stands {b : Nat} (h1 : bw < b) (h2 : bo < b) (h3 : bv < b) (h4 : w.heap.size ≤ b) (h5 : g < b) : Stands b (PS w g bw bo bv tw tO tv v0 F A n c L) := fun X i o o' hi ho hc h => by
  have hk := keep_put X i o'
  obtain ⟨v, hw, hv⟩ := h.wr
  refine ⟨⟨v, hw.kept hk (by omega) (fun k hk2 he => ?_), hv⟩, h.keep.trans hk (fun j hj e => by omega), (hk.block _ (lt_of_block h.cw) (by omega)).trans h.cw, (hk.block _ (lt_of_block h.co) (by omega)).trans h.co, (hk.block _ (lt_of_block h.cv) (by omega)).trans h.cv⟩
  obtain ⟨cs, e⟩ := hw.own.cells_ hk2
  rw [he, ho] at e
  injection e with e
  rw [e] at hc
  cases hc
theorem PS.kept (h : PS w g bw bo bv tw tO tv v0 F A n c L X) (k : KF X Y) : PS w g bw bo bv tw tO tv v0 F A n c L Y := by
  obtain ⟨v, hw, hv⟩ := h.wr
  exact ⟨⟨v, hw.kept k (fun h => h) (fun _ _ h => h), hv⟩, h.keep.trans k (fun _ _ h => h.elim), (k.block _ (lt_of_block h.cw) (fun h => h)).trans h.cw, (k.block _ (lt_of_block h.co) (fun h => h)).trans h.co, (k.block _ (lt_of_block h.cv) (fun h => h)).trans h.cv⟩
theorem PS.put {v : Value} {e : Ending} (h : PS w g bw bo bv tw tO tv v0 F A n c L X) (hw : Wr X g v L) (hv : v.ownBlock = v0.ownBlock ∨ ∃ k, v.ownBlock = some k ∧ w.heap.size ≤ k) (hp : Put X g v L' e Y) (hb : g ≠ bw ∧ g ≠ bo ∧ g ≠ bv) (ht : 5 ≠ tw ∧ 5 ≠ tO ∧ 5 ≠ tv) :
    PS w g bw bo bv tw tO tv v0 F A n c L' Y ∧ ∀ b, KeepsFrom b X Y := by
  obtain ⟨_, v', hw', hk, hf⟩ := hp
  have n1 : ¬ WS g v bw := by rintro (h' | h'); omega; exact hw.own.ne_ h.cw ht.1 h'
  have n2 : ¬ WS g v bo := by rintro (h' | h'); omega; exact hw.own.ne_ h.co ht.2.1 h'
  have n3 : ¬ WS g v bv := by rintro (h' | h'); omega; exact hw.own.ne_ h.cv ht.2.2 h'
  refine ⟨⟨⟨v', hw', nb_trans h.keep.size hv hf⟩, h.keep.trans hk (ws_sub hv), (hk.block _ (lt_of_block h.cw) n1).trans h.cw, (hk.block _ (lt_of_block h.co) n2).trans h.co, (hk.block _ (lt_of_block h.cv) n3).trans h.cv⟩, fun b => keepsFrom_of hk (fun i hi => ?_) b⟩
  rcases hi with rfl | hi
  · exact ⟨_, _, _, hw.block⟩
  · obtain ⟨cs, e⟩ := hw.own.cells_ hi
    exact ⟨_, _, _, e⟩
end
/-- What a list puts. -/
def lst {α : Type} (enc : α → List UInt8) (xs : List α) : List UInt8 := be xs.length 4 ++ xs.flatMap enc
set_option maxRecDepth 100000 in
set_option maxHeartbeats 1000000 in
theorem putList_any (F : Nat) (eF : ∀ args W, (callFunc F args).run Tryd.prog W = .ok (.enter F args) W) (enc : Txt → List UInt8) (xs : List Txt) (g : Nat) (v0 : Value) (l0 : List UInt8) (A : Option Addr) (n c B : Nat) (w : World) (hw : Wr w g v0 l0) (hn : n = xs.length) (hn9 : n ≤ 1000000000)
    (hl : ∀ k, (l0 ++ be n 4 ++ (xs.take k).flatMap enc).length ≤ 35184372088832) (hr : Strs w B A (xs.map ba)) (hB : B ≤ w.heap.size) (hBS : ∀ i, i < B → ¬ WS g v0 i)
    (hF : ∀ v l x X, x ∈ xs → l.length ≤ 35184372088832 → Wr X g v l → Calls Tryd.prog F #[.pointer (some ⟨g, 0, none⟩), .string (ba x)] X (Put X g v (l ++ enc x))) :
    Calls Tryd.prog 22 #[.pointer (some ⟨g, 0, none⟩), .slice A n c, .func (.func F) #[] #[]] w (Put w g v0 (l0 ++ lst enc xs)) := by
  have hglt := hw.lt
  obtain ⟨w1, hw1⟩ : ∃ w1, (w.alloc (.cells #[.pointer (some ⟨g, 0, none⟩)] 55)).alloc (.cells #[.func (.func F) #[] #[]] 58) = w1 := ⟨_, rfl⟩
  have k01 : KF w w1 := by rw [← hw1]; exact ((KF.refl w).alloc _).alloc _
  have hz1 : w1.heap.size = w.heap.size + 1 + 1 := by rw [← hw1]; simp
  have b1 : w1.heap[w.heap.size]? = some (.cells #[.pointer (some ⟨g, 0, none⟩)] 55 (0, 0)) := by
    rw [← hw1, Below.heap_alloc _ _ _ (by simp)]
    exact World.alloc_heap_new w _
  have b2 : w1.heap[w.heap.size + 1]? = some (.cells #[.func (.func F) #[] #[]] 58 (0, 0)) := by
    rw [← hw1]
    have := World.alloc_heap_new (w.alloc (.cells #[.pointer (some ⟨g, 0, none⟩)] 55)) (.cells #[.func (.func F) #[] #[]] 58)
    rwa [World.size_alloc] at this
  have hw1r : Wr w1 g v0 l0 := hw.kept k01 (fun h => h) (fun _ _ h => h)
  have hc1 : w1.cell? ⟨w.heap.size, 0, none⟩ = some (.pointer (some ⟨g, 0, none⟩)) := by simp [World.cell?, b1]
  have hl00 : l0.length ≤ 35184372088832 := by have := hl 0; simp at this; omega
  have C := Lib.hid (wcount_any g v0 l0 n w1 hw1r (by omega) (by omega))
  have HN := Lib.hid hn
  have HR := Lib.hid hr
  have hkp := Lib.hid k01
  have hb1 := Lib.hid b1
  have hb2 := Lib.hid b2
  clear hn hr hl00 hw1r k01 b1 b2
  refine (callsIn_wide (n := 3)).1 ?_
  refine callsIn_of_wp_marks Tryd.func22 rfl trivial ?_ rfl
  simp only [Tryd.ntmps22, List.size_toArray, List.length_cons, List.length_nil, Nat.reduceAdd, Nat.reduceSub, Array.replicate_succ, Array.replicate_zero, List.push_toArray, List.append_toArray, List.nil_append, List.cons_append]
  subst hw1
  gi_wp2_with (first
    | (refine ⟨trivial, ?_⟩; gi_at_call 49; refine (callsIn_wide.2 C.out).mono ?_; rintro e w2 ⟨rfl, v1, hw2, hk2, hf2⟩)
    | (refine ⟨trivial, ?_⟩; gi_at_call 50; refine (callsIn_wide.2 (values_any _ _ _ _)).mono ?_; rintro e w3 ⟨rfl, rfl⟩))
  have hz2 := hk2.size
  rw [hz1] at hz2
  have n1 : ¬ WS g v0 w.heap.size := by rintro (h | h); omega; have := hw.own.lt _ h; omega
  have n2 : ¬ WS g v0 (w.heap.size + 1) := by rintro (h | h); omega; have := hw.own.lt _ h; omega
  have kw2 : Keep (WS g v0) w w2 := (Keep.mono hkp.out (fun _ _ h => h.elim)).trans hk2 (fun i hi h => h)
  have c1 : w2.heap[w.heap.size]? = some (.cells #[.pointer (some ⟨g, 0, none⟩)] 55 (0, 0)) := (hk2.block _ (by omega) n1).trans hb1.out
  have c2 : w2.heap[w.heap.size + 1]? = some (.cells #[.func (.func F) #[] #[]] 58 (0, 0)) := (hk2.block _ (by omega) n2).trans hb2.out
  have hf2' : v1.ownBlock = v0.ownBlock ∨ ∃ k, v1.ownBlock = some k ∧ w.heap.size ≤ k := by
    rcases hf2 with h | ⟨k, hk, hle⟩
    · exact .inl h
    · exact .inr ⟨k, hk, by omega⟩
  obtain ⟨W0, hW0⟩ : ∃ W0, w2.alloc (.cells #[.slice A n c] 31) = W0 := ⟨_, rfl⟩
  have k20 : KF w2 W0 := by rw [← hW0]; exact (KF.refl w2).alloc _
  have hzW : W0.heap.size = w2.heap.size + 1 := by rw [← hW0]; simp
  have hS0 : PS w g w.heap.size (w.heap.size + 1) w2.heap.size 55 58 31 v0 F A n c (l0 ++ be n 4 ++ (xs.take 0).flatMap enc) W0 := by
    have e0 : l0 ++ be n 4 ++ (xs.take 0).flatMap enc = l0 ++ be n 4 := by simp
    rw [e0]
    exact ⟨⟨v1, hw2.kept k20 (fun h => h) (fun _ _ h => h), hf2'⟩, kw2.trans k20 (fun _ _ h => h.elim), (k20.block _ (by omega) (fun h => h)).trans c1, (k20.block _ (by omega) (fun h => h)).trans c2, by rw [← hW0]; exact World.alloc_heap_new w2 _⟩
  have hst : ∀ k, Stands W0.heap.size (PS w g w.heap.size (w.heap.size + 1) w2.heap.size 55 58 31 v0 F A n c (l0 ++ be n 4 ++ (xs.take k).flatMap enc)) := fun k => PS.stands (by omega) (by omega) (by omega) (by omega) (by omega)
  rw [hW0]
  clear hW0 hc1 C hw2 hk2 hf2 c1 c2 kw2 hf2' k20
  refine range_law rfl (by omega) (gf := 64) (lb := #[.pointer (some ⟨w2.heap.size, 0, none⟩)]) rfl trivial (enters_of Tryd.func64 (by kernel_rfl) rfl)
    (encs := fun x : Txt => #[.string (ba x)]) (fun _ => rfl)
    (VI xs (fun k => PS w g w.heap.size (w.heap.size + 1) w2.heap.size 55 58 31 v0 F A n c (l0 ++ be n 4 ++ (xs.take k).flatMap enc)))
    (VM xs (fun k => PS w g w.heap.size (w.heap.size + 1) w2.heap.size 55 58 31 v0 F A n c (l0 ++ be n 4 ++ (xs.take k).flatMap enc)))
    (VD xs (fun k => PS w g w.heap.size (w.heap.size + 1) w2.heap.size 55 58 31 v0 F A n c (l0 ++ be n 4 ++ (xs.take k).flatMap enc)))
    (fun pre => VI.stands hst) (fun pre x => VM.stands hst) (fun xs => VD.stands hst)
    (fun o o' => ⟨⟨xs, rfl⟩, hS0.kept (((KF.refl W0).alloc o).alloc o')⟩)
    (fun x => { tmps := #[.pointer (some ⟨g, 0, none⟩), .slice A n c, .func (.func F) #[] #[], .pointer (some ⟨w.heap.size, 0, none⟩), undef, .pointer (some ⟨w.heap.size + 1, 0, none⟩), .string (ba x), .pointer (some ⟨g, 0, none⟩), .slice A n c, .int .i64 n, .tuple #[], .slice A n c, .func (.func 64) #[] #[.pointer (some ⟨w2.heap.size, 0, none⟩)], .string (ba x), undef, undef, undef, undef], defers := [] }) ?assign ?body ?iter ?done
  case assign =>
    intro l x W K hK
    gi_wp2
    exact hK
  case iter =>
    intro l W BK hBK hY hI hbk
    exact iter_vals xs _ w2.heap.size A n c HN.out (by omega) (fun k X h => h.cv) (fun k X h => HR.out.keepB hB h.keep hBS) l BK hY W hI hbk
  case body =>
    rintro l pre x W ⟨⟨rest, hr⟩, hS⟩
    obtain ⟨v, hwv, hv⟩ := hS.wr
    have hx : x ∈ xs := by rw [hr]; simp
    have hc1 : W.cell? ⟨w.heap.size, 0, none⟩ = some (.pointer (some ⟨g, 0, none⟩)) := by simp [World.cell?, hS.cw]
    have hc2 : W.cell? ⟨w.heap.size + 1, 0, none⟩ = some (.func (.func F) #[] #[]) := by simp [World.cell?, hS.co]
    have C := Lib.hid (hF v _ x W hx (hl pre.length) hwv)
    have hT : (l0 ++ be n 4 ++ (xs.take pre.length).flatMap enc) ++ enc x = l0 ++ be n 4 ++ (xs.take (pre ++ [x]).length).flatMap enc := by
      rw [hr, List.take_left, List.length_append, List.append_assoc, show pre ++ x :: rest = (pre ++ [x]) ++ rest by simp, show pre.length + [x].length = (pre ++ [x]).length by simp, List.take_left, List.flatMap_append]
      simp
    have FIN := Lib.hid fun Y e (hp : Put W g v ((l0 ++ be n 4 ++ (xs.take pre.length).flatMap enc) ++ enc x) e Y) => (hS.put hwv hv hp ⟨by omega, by omega, by omega⟩ ⟨by decide, by decide, by decide⟩)
    rw [hT] at C FIN
    have HI := Lib.hid (show ∃ rest', xs = (pre ++ [x]) ++ rest' from ⟨rest, by rw [hr]; simp⟩)
    clear hr hT hx hwv hv hS
    obtain ⟨L', hL⟩ : ∃ L', l0 ++ be n 4 ++ (xs.take (pre ++ [x]).length).flatMap enc = L' := ⟨_, rfl⟩
    rw [hL] at C FIN
    have HL := Lib.hid hL
    clear hL
    gi_wp2_with fail
    refine ⟨trivial, ?_⟩
    refine (CallsIn.inRound l (callsIn_wide.2 C.out)).mono ?_
    intro e Y hp
    obtain rfl := hp.1
    obtain ⟨f1, f2⟩ := FIN.out Y _ hp
    have F1 := Lib.hid f1
    have F2 := Lib.hid f2
    clear C FIN hp f1 f2
    gi_wp2
    refine ⟨F2.out _, HI.out, ?_⟩
    have f1 := F1.out
    rw [← HL.out] at f1
    simpa only [List.append_assoc] using f1
  case done =>
    rintro D ys X hD ⟨rfl, hS⟩ hK
    have h2 := PS.stands (b := W0.heap.size) (by omega) (by omega) (by omega) (by omega) (by omega) X D _ (.deferred none) hD hK rfl hS
    have hE : l0 ++ be n 4 ++ (xs.take xs.length).flatMap enc = l0 ++ lst enc xs := by unfold lst; rw [List.take_length, ← HN.out, List.append_assoc]
    rw [hE] at h2
    have H2 := Lib.hid h2
    clear hS h2 hE
    gi_wp2
    refine ⟨by simp, .inl ⟨_, _, rfl, run_takeDeferred hK, ?_⟩⟩
    obtain ⟨v, hwv, hv⟩ := H2.out.wr
    exact ⟨_, results_none rfl _ _ _, rfl, v, hwv, H2.out.keep, hv⟩
end Go.Proofs.YtlkiaghpdjbfeaaDoor

namespace Go.Proofs.YtlkiaghpdjbfeaaDoor
open Go.RowKit

set_option maxRecDepth 100000 in
set_option maxHeartbeats 400000 in
theorem sput_any (F : Nat) (caps : Array Value) (l : List UInt8) (w : World) (eF : ∀ args W, (callFunc F args).run Tryd.prog W = .ok (.enter F args) W) (hl : l.length ≤ 35184372088000) (ht : Tab w)
    (hF : ∀ w2 g, KF w w2 → g = w.heap.size → g < w2.heap.size → Wn w2 w2 g [] → Calls Tryd.prog F (#[.pointer (some ⟨g, 0, none⟩)] ++ caps) w2 fun e w' => e = .returned (.tuple #[]) ∧ Wn w2 w' g l) :
    Calls Tryd.prog 17 #[.func (.func F) #[] caps] w (Fresh w (l.length + 4) (wrapB l)) := by
  obtain ⟨w2, hw2⟩ : ∃ w2, w.alloc (.cells #[.slice none 0 0] 92) = w2 := ⟨_, rfl⟩
  obtain ⟨g1, hg1⟩ : ∃ g1, w.heap.size = g1 := ⟨_, rfl⟩
  have s2 : w2.heap.size = w.heap.size + 1 := by rw [← hw2]; simp
  have b2 : w2.heap[g1]? = some (.cells #[.slice none 0 0] 92) := by rw [← hw2, ← hg1]; exact heap_alloc_new w _
  have k02 : KF w w2 := by rw [← hw2]; exact (KF.refl _).alloc _
  have W2 : Wn w2 w2 g1 [] := ⟨.slice none 0 0, ⟨b2, Own.nil _ _⟩, Keep.refl _ _, NB.nil _⟩
  have C0 := Lib.hid (hF w2 g1 k02 hg1.symm (by omega) W2)
  have HW2 := Lib.hid hw2
  have HG1 := Lib.hid hg1
  have HT2 := Lib.hid (ht.kept k02 (fun h => h))
  have hwl := Lib.hid ht.lt
  clear hF b2 hw2 s2 hg1 ht
  generalize hA : (#[.pointer (some ⟨g1, 0, none⟩)] ++ caps : Array Value) = args at *
  go_enter Tryd.func17, Tryd.ntmps17
  go_upto_region 2 with fail
  rw [HW2.out, HG1.out]
  go_wp2_with fail
  refine C0.out.mono ?_
  rintro e w8 ⟨rfl, v8, hw8, hk8, hn8⟩
  generalize hll : l.length = ll at *
  have HLL := Lib.hid hll
  clear hll
  have C6 := Lib.hid (out_any g1 v8 l w8 hw8 (by rw [HLL.out]; omega))
  rw [HLL.out] at C6
  have HT8 := Lib.hid (HT2.out.kept hk8 (fun h => by have := hwl.out; have := HG1.out; have h2 : 0 = g1 := h; omega))
  have hkw : KF w w8 := Keep.trans k02 hk8 (fun i hi h => by have := HG1.out; have h2 : i = g1 := h; omega)
  clear hk8 W2 HT2 HG1 HW2 C0
  go_wp2_with fail
  refine C6.out.mono ?_
  rintro e w9 ⟨A9, c9, rfl, o9, n9, k9⟩
  have C7 := Lib.hid (wrap_any A9 l c9 w9 (by rw [HLL.out]; omega) (HT8.out.kept k9 (fun h => h)) w9.heap.size o9.rd (Nat.le_refl _))
  rw [HLL.out] at C7
  go_wp2_with fail
  refine C7.out.mono ?_
  rintro e w10 ⟨A10, c10, rfl, o10, n10, k10⟩
  have hk9 := KF.trans hkw k9
  go_wp2
  go_ret
  exact ⟨A10, c10, rfl, o10, n10.older hk9.size, KF.trans hk9 k10⟩
end Go.Proofs.YtlkiaghpdjbfeaaDoor

namespace Go.Proofs.YtlkiaghpdjbfeaaDoor
open Go.RowKit

/-- A reader with l left, gone wrong if bad. -/
def RdE (w : World) (g : Nat) (s : List UInt8 × Bool) : Prop := ∃ A c, Rr w g A c s.1 s.2
/-- What a reader is behind a number of n bytes was asked for. -/
def tk (n : Nat) (s : List UInt8 × Bool) : List UInt8 × Bool := (tkR n s.1 s.2, tkB n s.1 s.2)
theorem RdE.lt {w : World} {g : Nat} {s : List UInt8 × Bool} (h : RdE w g s) : g < w.heap.size := by
  obtain ⟨A, c, h⟩ := h
  exact h.lt
theorem RdE.nil {w : World} {g : Nat} {s : List UInt8 × Bool} (h : RdE w g s) : s.2 = true → s.1 = [] := by
  obtain ⟨A, c, h⟩ := h
  exact h.nil
/-- A reader stands, if neither its block nor what it reads is touched. -/
theorem RdE.kept {w w' : World} {g : Nat} {s : List UInt8 × Bool} (h : RdE w g s) (hk : Keep (fun _ => False) w w') : RdE w' g s := by
  obtain ⟨A, c, h⟩ := h
  exact ⟨A, c, (hk.block g h.lt (fun h => h)).trans h.block, (h.rd.keepF hk (Nat.le_refl _)).more hk.size, h.cap, h.nil⟩
theorem num_le (n : Nat) (s : List UInt8 × Bool) (hn : n ≤ 8) : num (tkL n s.1 s.2) < 18446744073709551616 := by
  have h1 := num_lt (tkL n s.1 s.2)
  have h2 : 256 ^ (tkL n s.1 s.2).length ≤ 256 ^ 8 := Nat.pow_le_pow_right (by omega) (Nat.le_trans (tkL_le _ _ _) hn)
  omega
theorem num_le4 (n : Nat) (s : List UInt8 × Bool) (hn : n ≤ 4) : num (tkL n s.1 s.2) < 4294967296 := by
  have h1 := num_lt (tkL n s.1 s.2)
  have h2 : 256 ^ (tkL n s.1 s.2).length ≤ 256 ^ 4 := Nat.pow_le_pow_right (by omega) (Nat.le_trans (tkL_le _ _ _) hn)
  omega
theorem tk_len (n : Nat) (s : List UInt8 × Bool) : (tk n s).1.length ≤ s.1.length := by
  simp only [tk, tkR]
  split <;> simp
/-- What a call on a reader leaves that gives v. -/
def Took (w : World) (g : Nat) (v : Value) (s' : List UInt8 × Bool) (e : Ending) (w' : World) : Prop := e = .returned v ∧ RdE w' g s' ∧ Keep (fun k => k = g) w w'

/-- A reader whose bytes lie in block q. -/
def RdQ (w : World) (g q : Nat) (s : List UInt8 × Bool) : Prop := ∃ A c, Rr w g A c s.1 s.2 ∧ ∀ a : Addr, A = some a → s.1 ≠ [] → a.block = q
theorem RdQ.e {w : World} {g q : Nat} {s : List UInt8 × Bool} (h : RdQ w g q s) : RdE w g s := by
  obtain ⟨A, c, h, _⟩ := h
  exact ⟨A, c, h⟩
theorem RdE.q {w : World} {g : Nat} {s : List UInt8 × Bool} (h : RdE w g s) : ∃ q, q < w.heap.size ∧ RdQ w g q s := by
  have hlt := h.lt
  obtain ⟨A, c, h⟩ := h
  by_cases h0 : s.1 = []
  · exact ⟨g, hlt, A, c, h, fun a _ h' => absurd h0 h'⟩
  · obtain ⟨a0, rfl, hb⟩ := h.rd.some_of (Nat.pos_of_ne_zero fun h => h0 (List.eq_nil_of_length_eq_zero h))
    exact ⟨a0.block, hb, some a0, c, h, fun a h _ => by injection h with h; rw [h]⟩
theorem tkR_nil (n : Nat) (bad : Bool) : tkR n [] bad = [] := by unfold tkR; split <;> simp
theorem tk_ne {n : Nat} {s : List UInt8 × Bool} (h : (tk n s).1 ≠ []) : s.1 ≠ [] := fun h0 => h (by show tkR n s.1 s.2 = []; rw [h0, tkR_nil])
def TookQ (w : World) (g q : Nat) (v : Value) (s' : List UInt8 × Bool) (e : Ending) (w' : World) : Prop := e = .returned v ∧ RdQ w' g q s' ∧ Keep (fun k => k = g) w w'
theorem TookQ.e {w w' : World} {g q : Nat} {v : Value} {s' : List UInt8 × Bool} {e : Ending} (h : TookQ w g q v s' e w') : Took w g v s' e w' := ⟨h.1, h.2.1.e, h.2.2⟩
theorem number_q (g q : Nat) (s : List UInt8 × Bool) (n : Int) (w : World) (h : RdQ w g q s) (hb : s.1.length ≤ 70368744177664) :
    Calls Tryd.prog 57 #[.pointer (some ⟨g, 0, none⟩), .int .i64 n] w (TookQ w g q (.int .u64 (num (tkL (sz n) s.1 s.2) : Nat)) (tk (sz n) s)) := by
  obtain ⟨A, c, h, hq⟩ := h
  refine (number_take g A c s.1 s.2 n w h hb).mono ?_
  rintro e w' ⟨he, ⟨A2, c2, hr, hf⟩, hk⟩
  refine ⟨he, ⟨A2, c2, hr, fun a ha hne => ?_⟩, hk⟩
  obtain ⟨a0, h0, hb⟩ := hf a ha
  rw [hb]
  exact hq a0 h0 (tk_ne hne)
theorem number_e (g : Nat) (s : List UInt8 × Bool) (n : Int) (w : World) (h : RdE w g s) (hb : s.1.length ≤ 70368744177664) :
    Calls Tryd.prog 57 #[.pointer (some ⟨g, 0, none⟩), .int .i64 n] w (Took w g (.int .u64 (num (tkL (sz n) s.1 s.2) : Nat)) (tk (sz n) s)) := by
  obtain ⟨q, _, h⟩ := h.q
  exact (number_q g q s n w h hb).mono fun e w' h => h.e
theorem sz1 : sz 1 = 1 := by decide
theorem sz4' : sz 4 = 4 := by decide
theorem sz8 : sz 8 = 8 := by decide

theorem byte_e (g : Nat) (s : List UInt8 × Bool) (w : World) (h : RdE w g s) (hb : s.1.length ≤ 70368744177664) :
    Calls Tryd.prog 51 #[.pointer (some ⟨g, 0, none⟩)] w (Took w g (.int .u8 (num (tkL 1 s.1 s.2) : Nat)) (tk 1 s)) := by
  have N0 := number_e g s 1 w h hb
  have hlt := num_lt (tkL 1 s.1 s.2)
  have hle := tkL_le 1 s.1 s.2
  rw [sz1] at N0
  have hx : num (tkL 1 s.1 s.2) < 256 := by
    have : 256 ^ (tkL 1 s.1 s.2).length ≤ 256 ^ 1 := Nat.pow_le_pow_right (by omega) hle
    omega
  clear hlt hle
  generalize num (tkL 1 s.1 s.2) = x at *
  have N := Lib.hid N0
  clear N0
  go_enter Tryd.func51, Tryd.ntmps51
  go_wp2_with fail
  refine N.out.mono ?_
  rintro e w1 ⟨rfl, hr, hk⟩
  go_wp2
  go_ret
  exact ⟨ret_int (by omega), hr, hk⟩
/-- A number of 8 bytes as an int. -/
def asInt64 (x : Nat) : Int := wrap64 (x : Int)
theorem int_e (g : Nat) (s : List UInt8 × Bool) (w : World) (h : RdE w g s) (hb : s.1.length ≤ 70368744177664) :
    Calls Tryd.prog 42 #[.pointer (some ⟨g, 0, none⟩)] w (Took w g (.int .i64 (asInt64 (num (tkL 8 s.1 s.2)))) (tk 8 s)) := by
  have N0 := number_e g s 8 w h hb
  rw [sz8] at N0
  generalize num (tkL 8 s.1 s.2) = x at *
  have N := Lib.hid N0
  clear N0
  go_enter Tryd.func42, Tryd.ntmps42
  go_wp2_with fail
  refine N.out.mono ?_
  rintro e w1 ⟨rfl, hr, hk⟩
  go_wp2
  go_ret
  exact ⟨ret_int rfl, hr, hk⟩

/-- What End tells. -/
def endOf (s : List UInt8 × Bool) : Int := if s.2 = true ∨ 0 < s.1.length then 3 else 0
theorem end_e (g : Nat) (s : List UInt8 × Bool) (w : World) (h : RdE w g s) :
    Calls Tryd.prog 41 #[.pointer (some ⟨g, 0, none⟩)] w fun e w' => e = .returned (.int .i64 (endOf s)) ∧ w = w' := by
  obtain ⟨A, c, h⟩ := h
  have h0 := h.cell0
  have h1 := h.cell1
  obtain ⟨l, bad⟩ := s
  simp only at h0 h1
  cases bad with
  | true =>
    have HE := Lib.hid (show endOf (l, true) = 3 by simp [endOf])
    go_enter Tryd.func41, Tryd.ntmps41
    go_wp2
    go_ret
    exact ⟨by rw [HE.out]; rfl, rfl⟩
  | false =>
    by_cases hl : 0 < l.length
    · have HE := Lib.hid (show endOf (l, false) = 3 by simp [endOf, hl])
      have hd : decide ((0 : Int) < (l.length : Int)) = true := by simp; omega
      go_enter Tryd.func41, Tryd.ntmps41
      go_wp2
      go_ret
      exact ⟨by rw [HE.out]; rfl, rfl⟩
    · obtain rfl : l = [] := List.eq_nil_of_length_eq_zero (by omega)
      have HE := Lib.hid (show endOf ([], false) = 0 by simp [endOf])
      go_enter Tryd.func41, Tryd.ntmps41
      go_wp2
      go_ret
      exact ⟨by rw [HE.out]; rfl, rfl⟩

theorem fail_q (g q : Nat) (s : List UInt8 × Bool) (w : World) (h : RdQ w g q s) :
    Calls Tryd.prog 71 #[.pointer (some ⟨g, 0, none⟩)] w (TookQ w g q (.tuple #[]) ([], true)) := by
  obtain ⟨A, c, h, _⟩ := h
  exact (fail_any g A c s.1 s.2 w h).mono fun e w' ⟨he, hr, hk⟩ => ⟨he, ⟨_, _, hr, fun a h _ => nomatch h⟩, hk⟩
theorem fail_e (g : Nat) (s : List UInt8 × Bool) (w : World) (h : RdE w g s) :
    Calls Tryd.prog 71 #[.pointer (some ⟨g, 0, none⟩)] w (Took w g (.tuple #[]) ([], true)) := by
  obtain ⟨A, c, h⟩ := h
  exact (fail_any g A c s.1 s.2 w h).mono fun e w' ⟨he, hr, hk⟩ => ⟨he, ⟨_, _, hr⟩, hk⟩
/-- Has a reader gone wrong behind a count of at most 'most'? -/
def cntBad (most : Int) (s : List UInt8 × Bool) : Prop := (tk 4 s).2 = true ∨ most < (num (tkL 4 s.1 s.2) : Int)
open Classical in
noncomputable def cntV (most : Int) (s : List UInt8 × Bool) : Nat := if cntBad most s then 0 else num (tkL 4 s.1 s.2)
open Classical in
noncomputable def cntS (most : Int) (s : List UInt8 × Bool) : List UInt8 × Bool := if cntBad most s then ([], true) else tk 4 s
theorem cntV_lt (most : Int) (s : List UInt8 × Bool) : cntV most s < 4294967296 := by
  unfold cntV
  split
  · omega
  · exact num_le4 4 s (by omega)
theorem cnt_len (most : Int) (s : List UInt8 × Bool) : (cntS most s).1.length ≤ s.1.length := by
  unfold cntS
  split
  · simp
  · exact tk_len 4 s
theorem Took.next {w w1 w2 : World} {g : Nat} {v : Value} {s : List UInt8 × Bool} {e : Ending} (h : Took w1 g v s e w2) (hk : Keep (fun k => k = g) w w1) : Took w g v s e w2 := ⟨h.1, h.2.1, hk.trans h.2.2 (fun _ _ h => h)⟩
set_option maxHeartbeats 400000 in
theorem count_q (g q : Nat) (s : List UInt8 × Bool) (most : Int) (w : World) (h : RdQ w g q s) (hb : s.1.length ≤ 70368744177664) :
    Calls Tryd.prog 60 #[.pointer (some ⟨g, 0, none⟩), .int .i64 most] w (TookQ w g q (.int .i64 (cntV most s : Nat)) (cntS most s)) := by
  have N0 := number_q g q s 4 w h hb
  have hx := num_le4 4 s (by omega)
  rw [sz4'] at N0
  have hv : cntBad most s → cntV most s = 0 ∧ cntS most s = ([], true) := fun h => by unfold cntV cntS; rw [if_pos h, if_pos h]; exact ⟨rfl, rfl⟩
  have hv' : ¬ cntBad most s → cntV most s = num (tkL 4 s.1 s.2) ∧ cntS most s = tk 4 s := fun h => by unfold cntV cntS; rw [if_neg h, if_neg h]; exact ⟨rfl, rfl⟩
  have hbad : cntBad most s ↔ (tk 4 s).2 = true ∨ most < (num (tkL 4 s.1 s.2) : Int) := Iff.rfl
  generalize num (tkL 4 s.1 s.2) = x at *
  generalize tk 4 s = t at *
  generalize cntV most s = V at *
  generalize cntS most s = S' at *
  have hwr : wrap64 (x : Int) = x := IntWalk.wrap64_in _ ⟨by omega, by omega⟩
  have HW := Lib.hid hwr
  clear hwr
  have N := Lib.hid N0
  clear N0
  by_cases hm : most < (x : Int)
  · obtain ⟨rfl, rfl⟩ := hv (hbad.2 (.inr hm))
    clear hv hv' hbad
    go_enter Tryd.func60, Tryd.ntmps60
    go_wp2_with fail
    refine N.out.mono ?_
    rintro e w1 ⟨rfl, hr, hk⟩
    go_wp2_with fail
    refine (fail_q g q t w1 hr).mono ?_
    rintro e w2 ⟨rfl, hr2, hk2⟩
    obtain ⟨A2, c2, hr2, hq2⟩ := hr2
    have hc := hr2.cell1
    simp only at hc
    go_wp2
    go_ret
    exact ⟨rfl, ⟨A2, c2, hr2, hq2⟩, hk.trans hk2 (fun _ _ h => h)⟩
  · obtain ⟨tl, tb⟩ := t
    cases tb with
    | true =>
      obtain ⟨rfl, rfl⟩ := hv (hbad.2 (.inl rfl))
      clear hv hv' hbad
      go_enter Tryd.func60, Tryd.ntmps60
      go_wp2_with fail
      refine N.out.mono ?_
      rintro e w1 ⟨rfl, hr, hk⟩
      obtain ⟨A2, c2, hr2, hq2⟩ := hr
      have hc := hr2.cell1
      simp only at hc
      go_wp2
      go_ret
      have hnil : tl = [] := hr2.nil rfl
      subst hnil
      exact ⟨rfl, ⟨A2, c2, hr2, hq2⟩, hk⟩
    | false =>
      obtain ⟨rfl, rfl⟩ := hv' (fun h => by rcases hbad.1 h with h | h; cases h; exact hm h)
      clear hv hv' hbad
      go_enter Tryd.func60, Tryd.ntmps60
      go_wp2_with fail
      refine N.out.mono ?_
      rintro e w1 ⟨rfl, hr, hk⟩
      obtain ⟨A2, c2, hr2, hq2⟩ := hr
      have hc := hr2.cell1
      simp only at hc
      go_wp2
      go_ret
      exact ⟨rfl, ⟨A2, c2, hr2, hq2⟩, hk⟩
theorem count_e (g : Nat) (s : List UInt8 × Bool) (most : Int) (w : World) (h : RdE w g s) (hb : s.1.length ≤ 70368744177664) :
    Calls Tryd.prog 60 #[.pointer (some ⟨g, 0, none⟩), .int .i64 most] w (Took w g (.int .i64 (cntV most s : Nat)) (cntS most s)) := by
  obtain ⟨q, _, h⟩ := h.q
  exact (count_q g q s most w h hb).mono fun e w' h => h.e

/-- What Bytes leaves. -/
def Bytes_ (w : World) (g : Nat) (l : List UInt8) (s' : List UInt8 × Bool) (e : Ending) (w' : World) : Prop :=
  ∃ A1 n1 c1, e = .returned (.slice A1 n1 c1) ∧ Hid (n1 = l.length) ∧ Rd w' w'.heap.size A1 l ∧ n1 ≤ c1 ∧ RdE w' g s' ∧ Keep (fun k => k = g) w w'
def BytesQ (w : World) (g q : Nat) (l : List UInt8) (s' : List UInt8 × Bool) (e : Ending) (w' : World) : Prop :=
  ∃ A1 n1 c1, e = .returned (.slice A1 n1 c1) ∧ Hid (n1 = l.length) ∧ Rd w' w'.heap.size A1 l ∧ n1 ≤ c1 ∧ RdQ w' g q s' ∧ Keep (fun k => k = g) w w'
theorem bytes_q (g q : Nat) (s : List UInt8 × Bool) (most : Int) (w : World) (h : RdQ w g q s) (hb : s.1.length ≤ 70368744177664) :
    Calls Tryd.prog 43 #[.pointer (some ⟨g, 0, none⟩), .int .i64 most] w (BytesQ w g q (tkL (cntV most s) (cntS most s).1 (cntS most s).2) (tk (cntV most s) (cntS most s))) := by
  have C := Lib.hid (count_q g q s most w h hb)
  have hl := cnt_len most s
  have hv := cntV_lt most s
  generalize cntV most s = V at *
  generalize cntS most s = S' at *
  go_enter Tryd.func43, Tryd.ntmps43
  go_wp2_with fail
  refine C.out.mono ?_
  rintro e w1 ⟨rfl, ⟨A, c, hr, hq⟩, hk⟩
  go_wp2_with fail
  refine (take_any g A c S'.1 S'.2 V w1 hr (by omega) (by omega)).mono ?_
  rintro e w2 ⟨A1, c1, A2, c2, rfl, hrd, hle, hr2, hk2, hf2⟩
  go_wp2
  go_ret
  exact ⟨A1, _, c1, rfl, rfl, hrd, hle, ⟨A2, c2, hr2, fun a ha hne => by obtain ⟨a0, h0, hb⟩ := hf2 a ha; rw [hb]; exact hq a0 h0 (tk_ne (s := S') hne)⟩, hk.trans hk2 (fun _ _ h => h)⟩
theorem bytes_e (g : Nat) (s : List UInt8 × Bool) (most : Int) (w : World) (h : RdE w g s) (hb : s.1.length ≤ 70368744177664) :
    Calls Tryd.prog 43 #[.pointer (some ⟨g, 0, none⟩), .int .i64 most] w (Bytes_ w g (tkL (cntV most s) (cntS most s).1 (cntS most s).2) (tk (cntV most s) (cntS most s))) := by
  obtain ⟨q, _, h⟩ := h.q
  refine (bytes_q g q s most w h hb).mono ?_
  rintro e w' ⟨A1, n1, c1, he, hn, hr, hle, hs, hk⟩
  exact ⟨A1, n1, c1, he, hn, hr, hle, hs.e, hk⟩
/-- Behind a truth. -/
def flagS (s : List UInt8 × Bool) : List UInt8 × Bool := if 1 < num (tkL 1 s.1 s.2) then ([], true) else tk 1 s
end Go.Proofs.YtlkiaghpdjbfeaaDoor

namespace Go.Proofs.YtlkiaghpdjbfeaaDoor
open Go.RowKit Go.Shelf

set_option maxRecDepth 100000 in
set_option maxHeartbeats 1000000 in
theorem encode1_any (x : TCall) (A : Option Addr) (d c B g0 g1 : Nat) (w2 : World) (hp : x.path.length ≤ 1000000) (ho : x.other.length ≤ 1000000) (hd : x.data.length ≤ 1000000) (hdl : d = x.data.length)
    (hb : w2.heap[g0]? = some (.cells #[.int .i64 x.kind, .string (ba x.path), .string (ba x.other), .int .i64 x.off, .int .i64 x.n, .slice A d c] 28)) (h01 : g0 < g1) (hg1 : g1 < w2.heap.size) (hr : Rd w2 B A x.data) (hB : B ≤ g1) (W2 : Wn w2 w2 g1 []) :
    Calls Tryd.prog 27 #[.pointer (some ⟨g1, 0, none⟩), .pointer (some ⟨g0, 0, none⟩)] w2 fun e w' => e = .returned (.tuple #[]) ∧ Wn w2 w' g1 (encC x) := by
  have CELL := Lib.hid fun wx l (h : Wn w2 wx g1 l) => six_cells (((h.keep).block g0 (by omega) (by omega)).trans hb)
  have RD := Lib.hid fun wx l (h : Wn w2 wx g1 l) => show Rd wx B A x.data from hr.below (h.keep.below (B := B) (by omega) (fun i hi he => by omega))
  have cv := conv_text
  have hk8 : IntKind.u8.wrap x.kind = ((b8 x.kind).toNat : Int) := by rw [IntKind.wrap_u8, b8_toNat]; omega
  have HDL := Lib.hid hdl
  have hB2 := Lib.hid (show B ≤ w2.heap.size by omega)
  clear hdl hb hr
  go_enter Tryd.func27, Tryd.ntmps27
  obtain ⟨c0, c1, c2, c3, c4, c5⟩ := CELL.out _ _ W2
  have C0 := Lib.hid (W2.byte (b8 x.kind) (by simp))
  go_wp2_with fail
  refine C0.out.mono ?_
  rintro e w3 ⟨rfl, W3⟩
  clear c0 c1 c2 c3 c4 c5 C0 hk8
  obtain ⟨c0, c1, c2, c3, c4, c5⟩ := CELL.out _ _ W3
  have C1 := Lib.hid (fun cc => W3.txt x.path cc (by omega) (by simp))
  go_wp2_with fail
  refine (C1.out _).mono ?_
  rintro e w4 ⟨rfl, W4⟩
  clear c0 c1 c2 c3 c4 c5 C1
  obtain ⟨c0, c1, c2, c3, c4, c5⟩ := CELL.out _ _ W4
  have C2 := Lib.hid (fun cc => W4.txt x.other cc (by omega) (by simp [tx_length]; omega))
  go_wp2_with fail
  refine (C2.out _).mono ?_
  rintro e w5 ⟨rfl, W5⟩
  clear c0 c1 c2 c3 c4 c5 C2
  obtain ⟨c0, c1, c2, c3, c4, c5⟩ := CELL.out _ _ W5
  have C3 := Lib.hid (W5.int x.off (by simp [tx_length]; omega))
  go_wp2_with fail
  refine C3.out.mono ?_
  rintro e w6 ⟨rfl, W6⟩
  clear c0 c1 c2 c3 c4 c5 C3
  obtain ⟨c0, c1, c2, c3, c4, c5⟩ := CELL.out _ _ W6
  have C4 := Lib.hid (W6.int x.n (by simp [tx_length, be_length]; omega))
  go_wp2_with fail
  refine C4.out.mono ?_
  rintro e w7 ⟨rfl, W7⟩
  clear c0 c1 c2 c3 c4 c5 C4
  obtain ⟨c0, c1, c2, c3, c4, c5⟩ := CELL.out _ _ W7
  have C5 := Lib.hid (W7.bytes A x.data c (by omega) (by simp [tx_length, be_length]; omega) B (RD.out _ _ W7) hB hB2.out)
  rw [← HDL.out] at C5
  go_wp2_with fail
  refine C5.out.mono ?_
  rintro e w8 ⟨rfl, W8⟩
  have hl8 : [] ++ [b8 x.kind] ++ tx x.path ++ tx x.other ++ be (u64 x.off) 8 ++ be (u64 x.n) 8 ++ tx x.data = encC x := by simp only [encC, List.nil_append]
  rw [hl8] at W8
  clear c0 c1 c2 c3 c4 c5 C5 hl8
  go_wp2
  go_end0
  exact ⟨rfl, W8⟩

set_option maxRecDepth 100000 in
set_option maxHeartbeats 1000000 in
theorem encode_any (x : TCall) (A : Option Addr) (d c : Nat) (w : World) (ht : Tab w) (hp : x.path.length ≤ 1000000) (ho : x.other.length ≤ 1000000) (hd : x.data.length ≤ 1000000) (hdl : d = x.data.length) (hr : Rd w w.heap.size A x.data) :
    Calls Tryd.prog 12 #[.agg #[.int .i64 x.kind, .string (ba x.path), .string (ba x.other), .int .i64 x.off, .int .i64 x.n, .slice A d c]] w (Fresh w ((encC x).length + 4) (wrapB (encC x))) := by
  obtain ⟨w1, hw1⟩ : ∃ w1, w.alloc (.cells #[.int .i64 x.kind, .string (ba x.path), .string (ba x.other), .int .i64 x.off, .int .i64 x.n, .slice A d c] 28) = w1 := ⟨_, rfl⟩
  obtain ⟨g0, hg0⟩ : ∃ g0, w.heap.size = g0 := ⟨_, rfl⟩
  have s1 : w1.heap.size = w.heap.size + 1 := by rw [← hw1]; simp
  have b1 : w1.heap[g0]? = some (.cells #[.int .i64 x.kind, .string (ba x.path), .string (ba x.other), .int .i64 x.off, .int .i64 x.n, .slice A d c] 28) := by rw [← hw1, ← hg0]; exact heap_alloc_new w _
  have k01 : KF w w1 := by rw [← hw1]; exact (KF.refl _).alloc _
  have hencl := encC_length x
  have C := Lib.hid (sput_any 27 #[.pointer (some ⟨g0, 0, none⟩)] (encC x) w1 (enters_of Tryd.func27 (by kernel_rfl) rfl) (by omega) (ht.kept k01 (fun h => h))
    fun w2 g k02 hg hlt W2 => encode1_any x A d c w.heap.size g0 g w2 hp ho hd hdl ((k02.block g0 (by omega) (fun h => h)).trans b1) (by omega) hlt ((hr.keepF k01 (Nat.le_refl _)).keepF k02 k01.size) (by omega) W2)
  have HW1 := Lib.hid hw1
  have HG0 := Lib.hid hg0
  clear b1 hw1 hg0 s1 hdl ht hr hencl
  generalize (encC x).length = ll at *
  generalize wrapB (encC x) = L at *
  have hmf : ∀ (fn : Fn) (first cap : Array Value) (w : World), (Instr.makeFunc fn first cap).run Tryd.prog w = .ok (.func fn first cap) w := fun fn first cap w => rfl
  go_enter Tryd.func12, Tryd.ntmps12
  go_upto_region 1 with fail
  rw [HW1.out, HG0.out]
  go_wp2_with fail
  refine C.out.mono ?_
  rintro e w9 ⟨A9, c9, rfl, o9, n9, k9⟩
  go_wp2
  go_ret
  exact ⟨A9, c9, rfl, o9, n9.older k01.size, KF.trans k01 k9⟩
end Go.Proofs.YtlkiaghpdjbfeaaDoor

namespace Go.Proofs.YtlkiaghpdjbfeaaDoor
open Go.RowKit

theorem add_flat (b o j : Nat) : (⟨b, o, none⟩ : Addr).add j = ⟨b, o + j, none⟩ := by unfold Addr.add; split <;> simp_all
/-- What the laws on append ask of a type of rows of texts. -/
structure St (P : Program) (T E : TypeId) : Prop where
  under : P.underlying T = some (.slice E)
  info : ∃ i, P.info? E = some i ∧ i.zero = some (.string ByteArray.empty) ∧ i.size = 1 ∧ i.bytes = 16
/-- The value v is a row of the call's own that holds the texts xs. -/
def OwnT (E : TypeId) (w : World) (v : Value) (xs : List ByteArray) : Prop := w.ownsRow 0 E 1 v xs.length (xs.map Value.string)
section
variable {P : Program} {E : TypeId} {w w' : World} {v : Value} {xs : List ByteArray}
theorem OwnT.shape (h : OwnT E w v xs) : ∃ A c, v = .slice A xs.length c ∧ xs.length ≤ c ∧ c ≤ maxLen ∧ Strs w w.heap.size A xs ∧ (∀ g, v.ownBlock = some g → ∃ o, A = some ⟨g, o, none⟩) := by
  rcases h.2 with ⟨rfl, h0⟩ | ⟨g, cap, cur, rfl, _, hg, hnc, hcm, _⟩
  · have : xs = [] := List.eq_nil_of_length_eq_zero h0
    subst this
    exact ⟨none, 0, rfl, Nat.le_refl _, Nat.zero_le _, Strs.nil, fun g hg => by simp [Value.ownBlock] at hg⟩
  · refine ⟨some ⟨g, 0, none⟩, cap, rfl, hnc, hcm, fun j x hj => ⟨g, 0, rfl, ?_, ?_⟩, fun k hk => ?_⟩
    · exact (Array.getElem?_eq_some_iff.1 hg).1
    · have := World.ownsRow.cells (g := g) h rfl j (.string x) (by rw [List.getElem?_map, hj]; rfl)
      rw [add_flat] at this
      exact this
    · simp [Value.ownBlock] at hk
      subst hk
      exact ⟨0, rfl⟩
theorem OwnT.alloc (h : OwnT E w v xs) (o : Obj) : OwnT E (w.alloc o) v xs := World.ownsRow.alloc h o
theorem OwnT.drew (h : OwnT E w v xs) : OwnT E w.drew v xs := h
theorem OwnT.empty (E : TypeId) (w : World) : OwnT E (w.alloc (.cells #[] E)) (.slice (some ⟨w.heap.size, 0, none⟩) 0 0) [] :=
  ⟨rfl, .inr ⟨w.heap.size, 0, #[], rfl, Nat.zero_le _, heap_alloc_new w _, Nat.le_refl _, Nat.zero_le _, rfl, rfl⟩⟩
theorem OwnT.kept {S : Nat → Prop} (h : OwnT E w v xs) (hk : Keep S w w') (hs : ∀ k, v.ownBlock = some k → ¬ S k) : OwnT E w' v xs := by
  refine ⟨h.1, ?_⟩
  rcases h.2 with h0 | ⟨g, cap, cur, hv, hb, hg, hnc, hcm, hcs, ht⟩
  · exact .inl h0
  · refine .inr ⟨g, cap, cur, hv, hb, ?_, hnc, hcm, hcs, ht⟩
    rw [hk.block g (Array.getElem?_eq_some_iff.1 hg).1 (hs g (by rw [hv]; rfl))]
    exact hg
end
section
variable {P : Program} (w : World)
theorem strs_one (s : ByteArray) (E : TypeId) : Strs (w.alloc (.cells #[.string s] E)) (w.heap.size + 1) (some ⟨w.heap.size, 0, none⟩) [s] := fun j x hj => by
  rcases j with _ | j
  · injection hj with hj
    subst hj
    refine ⟨_, _, rfl, by omega, ?_⟩
    rw [World.cell?_alloc_mark]
    rfl
  · simp at hj
theorem run_append_str {T E : TypeId} (U : St P T E) (ty : TypeId) (v : Value) (xs : List ByteArray) (hown : OwnT E w v xs) (B : Nat) (A : Option Addr) (c : Nat) (ys : List ByteArray) (n : Nat) (hn : n = ys.length) (hr : Strs w B A ys)
    (hb : xs.length + ys.length ≤ 1000000000) :
    ∃ v' w', (Builtin.append_ #[T, T] ty #[v, .slice A n c]).run P w = .ok v' w' ∧ OwnT E w' v' (xs ++ ys) ∧ w.grownBy w' v.ownBlock ∧ (v'.ownBlock = v.ownBlock ∨ v'.ownBlock = some w.heap.size) := by
  subst hn
  obtain ⟨i, hi, hz, hs, hby⟩ := U.info
  rcases hm : A with _ | ad
  · have : ys = [] := by
      rcases ys with _ | ⟨b, m⟩
      · rfl
      · obtain ⟨b, o, h, _⟩ := hr 0 b rfl
        rw [hm] at h
        cases h
    subst this
    refine ⟨v, w, ?_, by simpa using hown, World.grownBy.refl w _, .inl rfl⟩
    rcases hown.2 with ⟨rfl, h0⟩ | ⟨g, cap, cur, rfl, _, _, hnc, _⟩
    · simp [Builtin.append_, run_underlying U.under, sizeOf, typeInfo, hi, Builtin.lenOf, Builtin.firstCells]
    · simp [Builtin.append_, run_underlying U.under, sizeOf, typeInfo, hi, Builtin.lenOf, Builtin.firstCells, hnc, storeCells]
  · subst hm
    have hcells : ∀ j u, (ys.map Value.string)[j]? = some u → w.cell? (ad.add j) = some u := by
      intro j u hu
      rw [List.getElem?_map, Option.map_eq_some_iff] at hu
      obtain ⟨x, hx, rfl⟩ := hu
      obtain ⟨b, o, e, _, hc⟩ := hr j x hx
      injection e with e
      subst e
      rw [add_flat]
      exact hc
    obtain ⟨v', w', hrun, h2, h3, _, h5⟩ := run_append_own_at (P := P) w 0 T ty E i (.string ByteArray.empty) 1 16 U.under hi hz hs hby rfl (by omega) v xs.length (xs.map Value.string) hown ad ys.length c (ys.map Value.string) (by simp) hcells
      (fun u hu => by
        rw [List.mem_map] at hu
        obtain ⟨x, _, rfl⟩ := hu
        rfl) (by simp only [maxLen]; omega) (by omega) (Nat.zero_le _)
    exact ⟨v', w', hrun, by simpa [OwnT] using h2, h3, h5⟩
theorem wpList_append_str {ops : Array Oper} {rest : List Oper} {o : Oper} {a : Act} {Q : Exit → Act → World → Prop} (hgd : o.guard = none) (s x : Operand) (T : TypeId)
    (ho : o.op = .call { callee := .builtin .append, args := #[s, x], argTypes := #[T, T] }) {E : TypeId} (U : St P T E) (v : Value) (xs : List ByteArray) (hs : a.eval s = v) (hown : OwnT E w v xs) (B : Nat) (A : Option Addr) (n c : Nat) (ys : List ByteArray)
    (hx : a.eval x = .slice A n c) (hn : n = ys.length) (hr : Strs w B A ys) (hb : xs.length + ys.length ≤ 1000000000)
    (h : ∀ A' n' c' w', OwnT E w' (.slice A' n' c') (xs ++ ys) → Hid (n' = (xs ++ ys).length) → n' ≤ c' → c' ≤ maxLen → w.grownBy w' v.ownBlock → ((Value.slice A' n' c').ownBlock = v.ownBlock ∨ (Value.slice A' n' c').ownBlock = some w.heap.size) → wpList P ops Q rest (a.put o.dst (.slice A' n' c')) w') : wpList P ops Q (o :: rest) a w := by
  refine wpList_plain hgd fun K hK => ?_
  obtain ⟨v', w', hrun, h2, h3, h4⟩ := run_append_str (P := P) w U o.type v xs hown B A c ys n hn hr hb
  unfold Oper.wp execOp
  simp only [ho, resolve, invoke, builtin, Sem.run_bind, Sem.run_pure, Result.andThen_ok, List.map_toArray, List.map_cons, List.map_nil, hs, hx, hrun]
  obtain ⟨A', c', rfl, hle, hm, _, _⟩ := h2.shape
  exact hK _ _ (h _ _ _ w' h2 rfl hle hm h3 h4)
theorem wp_append_str {o : Oper} {a : Act} {K : Act → World → Prop} {Q : Exit → Act → World → Prop} (s x : Operand) (T : TypeId)
    (ho : o.op = .call { callee := .builtin .append, args := #[s, x], argTypes := #[T, T] }) {E : TypeId} (U : St P T E) (v : Value) (xs : List ByteArray) (hs : a.eval s = v) (hown : OwnT E w v xs) (B : Nat) (A : Option Addr) (n c : Nat) (ys : List ByteArray)
    (hx : a.eval x = .slice A n c) (hn : n = ys.length) (hr : Strs w B A ys) (hb : xs.length + ys.length ≤ 1000000000)
    (h : ∀ A' n' c' w', OwnT E w' (.slice A' n' c') (xs ++ ys) → Hid (n' = (xs ++ ys).length) → n' ≤ c' → c' ≤ maxLen → w.grownBy w' v.ownBlock → ((Value.slice A' n' c').ownBlock = v.ownBlock ∨ (Value.slice A' n' c').ownBlock = some w.heap.size) → K (a.put o.dst (.slice A' n' c')) w') : o.wp P a w K Q := by
  obtain ⟨v', w', hrun, h2, h3, h4⟩ := run_append_str (P := P) w U o.type v xs hown B A c ys n hn hr hb
  unfold Oper.wp execOp
  simp only [ho, resolve, invoke, builtin, Sem.run_bind, Sem.run_pure, Result.andThen_ok, List.map_toArray, List.map_cons, List.map_nil, hs, hx, hrun]
  obtain ⟨A', c', rfl, hle, hm, _, _⟩ := h2.shape
  exact h _ _ _ w' h2 rfl hle hm h3 h4
theorem wpList_append_want {ops : Array Oper} {rest : List Oper} {o : Oper} {a : Act} {Q : Exit → Act → World → Prop} (hw : Region.wanted o (yielded ops a.tmps) = true) (s x : Operand) (T : TypeId)
    (ho : o.op = .call { callee := .builtin .append, args := #[s, x], argTypes := #[T, T] }) {E : TypeId} (U : St P T E) (v : Value) (xs : List ByteArray) (hs : a.eval s = v) (hown : OwnT E w v xs) (B : Nat) (A : Option Addr) (n c : Nat) (ys : List ByteArray)
    (hx : a.eval x = .slice A n c) (hn : n = ys.length) (hr : Strs w B A ys) (hb : xs.length + ys.length ≤ 1000000000)
    (h : ∀ A' n' c' w', OwnT E w' (.slice A' n' c') (xs ++ ys) → Hid (n' = (xs ++ ys).length) → n' ≤ c' → c' ≤ maxLen → w.grownBy w' v.ownBlock → ((Value.slice A' n' c').ownBlock = v.ownBlock ∨ (Value.slice A' n' c').ownBlock = some w.heap.size) → wpList P ops Q rest (a.put o.dst (.slice A' n' c')) w') : wpList P ops Q (o :: rest) a w :=
  BigFrame.wpList_want hw fun _ hK => wp_append_str w s x T ho U v xs hs hown B A n c ys hx hn hr hb fun A' n' c' w' h2 h3 h4 h5 h6 h7 => hK _ _ (h A' n' c' w' h2 h3 h4 h5 h6 h7)
end
end Go.Proofs.YtlkiaghpdjbfeaaDoor

namespace Go.Proofs.YtlkiaghpdjbfeaaDoor
open Go.RowKit
theorem wpListIn_append_str {F : Fence} {m : Nat} {P : Program} (w : World) {ops : Array Oper} {rest : List Oper} {o : Oper} {a : Act} {Q : Exit → Act → World → Prop} (hgd : o.guard = none) (s x : Operand) (T : TypeId)
    (ho : o.op = .call { callee := .builtin .append, args := #[s, x], argTypes := #[T, T] }) {E : TypeId} (U : St P T E) (v : Value) (xs : List ByteArray) (hs : a.eval s = v) (hown : OwnT E w v xs) (B : Nat) (A : Option Addr) (n c : Nat) (ys : List ByteArray)
    (hx : a.eval x = .slice A n c) (hn : n = ys.length) (hr : Strs w B A ys) (hb : xs.length + ys.length ≤ 1000000000)
    (h : ∀ v' w', OwnT E w' v' (xs ++ ys) → w.grownBy w' v.ownBlock → (v'.ownBlock = v.ownBlock ∨ v'.ownBlock = some w.heap.size) → wpListIn F m P ops Q rest (a.put o.dst v') w') : wpListIn F m P ops Q (o :: rest) a w := by
  refine wpListIn_plain hgd fun K hK => ?_
  obtain ⟨v', w', hrun, h2, h3, h4⟩ := run_append_str (P := P) w U o.type v xs hown B A c ys n hn hr hb
  unfold Oper.wpIn
  refine ⟨?_, ?_⟩
  · simp [Oper.about, ho, resolve, Target.leads, Sem.run_pure]
  · rw [Oper.semAt_plain F _ _ (by rw [ho]; intro c hc'; cases hc')]
    simp [execOp, ho, resolve, invoke, builtin, hs, hx, hrun, Result.andThen]
    exact hK _ _ (h _ _ h2 h3 h4)
end Go.Proofs.YtlkiaghpdjbfeaaDoor

namespace Go.Proofs.YtlkiaghpdjbfeaaDoor

/-- How many entries of all directories are of a node. -/
def allRefs (t : Tr) (n : Nat) : Nat := ((List.range 64).map fun m => refs (t m).entries n).sum
theorem sum_change (f g : Nat → Nat) (p : Nat) (h : ∀ m, m ≠ p → f m = g m) : ∀ N, (N ≤ p → ((List.range N).map f).sum = ((List.range N).map g).sum) ∧ (p < N → ((List.range N).map f).sum + g p = ((List.range N).map g).sum + f p) := by
  intro N
  induction N with
  | zero => exact ⟨fun _ => rfl, fun h => by omega⟩
  | succ N ih =>
    obtain ⟨i1, i2⟩ := ih
    simp only [List.range_succ, List.map_append, List.map_cons, List.map_nil, List.sum_append, List.sum_cons, List.sum_nil, Nat.add_zero]
    refine ⟨fun hp => ?_, fun hp => ?_⟩
    · rw [i1 (by omega), h N (by omega)]
    · by_cases e : p = N
      · subst e
        rw [i1 (Nat.le_refl _)]
        omega
      · have := i2 (by omega)
        rw [h N (fun e' => e e'.symm)]
        omega
theorem allRefs_change {t u : Tr} {p : Nat} (hp : p < 64) (h : ∀ m, m ≠ p → (u m).entries = (t m).entries) (n : Nat) : allRefs u n + refs (t p).entries n = allRefs t n + refs (u p).entries n :=
  (sum_change (fun m => refs (u m).entries n) (fun m => refs (t m).entries n) p (fun m hm => by rw [h m hm]) 64).2 hp
theorem allRefs_same {t u : Tr} (h : ∀ m, (u m).entries = (t m).entries) (n : Nat) : allRefs u n = allRefs t n := by
  unfold allRefs
  congr 1
  exact List.map_congr_left fun m _ => by rw [h m]
theorem sum_ge (f : Nat → Nat) {p : Nat} : ∀ N, p < N → f p ≤ ((List.range N).map f).sum := by
  intro N
  induction N with
  | zero => intro h; omega
  | succ N ih =>
    intro h
    simp only [List.range_succ, List.map_append, List.map_cons, List.map_nil, List.sum_append, List.sum_cons, List.sum_nil, Nat.add_zero]
    by_cases e : p = N
    · subst e; omega
    · have := ih (by omega); omega
theorem sum_two (f : Nat → Nat) {p q : Nat} (hpq : p ≠ q) : ∀ N, p < N → q < N → f p + f q ≤ ((List.range N).map f).sum := by
  intro N
  induction N with
  | zero => intro h; omega
  | succ N ih =>
    intro h1 h2
    simp only [List.range_succ, List.map_append, List.map_cons, List.map_nil, List.sum_append, List.sum_cons, List.sum_nil, Nat.add_zero]
    by_cases e : p = N
    · subst e
      have := sum_ge f (p := q) p (by omega)
      omega
    · by_cases e2 : q = N
      · subst e2
        have := sum_ge f (p := p) q (by omega)
        omega
      · have := ih (by omega) (by omega)
        omega
theorem sum_pos (f : Nat → Nat) : ∀ N, 0 < ((List.range N).map f).sum → ∃ m, m < N ∧ 0 < f m := by
  intro N
  induction N with
  | zero => intro h; exact absurd h (by simp)
  | succ N ih =>
    intro h
    simp only [List.range_succ, List.map_append, List.map_cons, List.map_nil, List.sum_append, List.sum_cons, List.sum_nil, Nat.add_zero] at h
    by_cases e : 0 < f N
    · exact ⟨N, by omega, e⟩
    · obtain ⟨m, hm, hf⟩ := ih (by omega)
      exact ⟨m, by omega, hf⟩
theorem refs_mem {es : Row} {x : Txt} {n : Nat} (h : (x, n) ∈ es) : 1 ≤ refs es n := by
  unfold refs
  exact List.countP_pos_iff.2 ⟨_, h, by simp⟩
theorem refs_pos {es : Row} {n : Nat} (h : 0 < refs es n) : ∃ x, (x, n) ∈ es := by
  unfold refs at h
  obtain ⟨e, he, hp⟩ := List.countP_pos_iff.1 h
  refine ⟨e.1, ?_⟩
  have : e.2 = n := by simpa using hp
  rw [← this]
  exact he

structure Good (t : Tr) : Prop where
  root : (t 0).kind = 1 ∧ (t 0).links = 1
  top : ∀ n, 64 ≤ n → (t n).kind = 0
  void : ∀ n, (t n).kind = 0 → t n = noNode
  kinds : ∀ n, (t n).kind ≤ 2
  dir : ∀ n, (t n).kind = 1 → (t n).links = 1 ∧ (t n).data = []
  file : ∀ n, (t n).kind = 2 → (t n).entries = [] ∧ (t n).data.length ≤ 512
  rising : ∀ n, Rising (t n).entries
  entry : ∀ n, ∀ e ∈ (t n).entries, IsName e.1 ∧ e.2 ≠ 0 ∧ (t e.2).kind ≠ 0
  count : ∀ n, n ≠ 0 → (t n).kind ≠ 0 → allRefs t n = (t n).links ∧ 1 ≤ (t n).links
  rank : ∃ d : Nat → Nat, ∀ n, ∀ e ∈ (t n).entries, (t e.2).kind = 1 → d n < d e.2
namespace Good
variable {t : Tr}
theorem lt (g : Good t) {n : Nat} (h : (t n).kind ≠ 0) : n < 64 := by
  rcases Nat.lt_or_ge n 64 with h' | h'
  · exact h'
  · exact absurd (g.top n h') h
theorem isDir (g : Good t) {n : Nat} {e : Txt × Nat} (h : e ∈ (t n).entries) : (t n).kind = 1 := by
  have h1 := g.kinds n
  have h2 : (t n).kind ≠ 0 := fun h0 => by rw [g.void n h0] at h; cases h
  have h3 : (t n).kind ≠ 2 := fun h0 => by rw [(g.file n h0).1] at h; cases h
  omega
theorem zero_refs (g : Good t) {n : Nat} (h : (t n).kind = 0 ∨ n = 0) : allRefs t n = 0 := by
  apply Classical.byContradiction
  intro hne
  obtain ⟨m, _, hm⟩ := sum_pos _ 64 (Nat.pos_of_ne_zero hne)
  obtain ⟨x, hx⟩ := refs_pos hm
  have := g.entry m _ hx
  rcases h with h | h
  · exact this.2.2 h
  · exact this.2.1 h
/-- A directory is of one entry alone. -/
theorem only (g : Good t) {n m m' : Nat} {x x' : Txt} (hd : (t n).kind = 1) (h : look (t m).entries x = some n) (h' : look (t m').entries x' = some n) : m = m' ∧ x = x' := by
  have e1 := look_mem h
  have e2 := look_mem h'
  have hn := (g.entry m _ e1).2.1
  have hc := (g.count n hn (by omega)).1
  rw [(g.dir n hd).1] at hc
  have hm := g.lt (n := m) (by rw [g.isDir e1]; omega)
  have hm' := g.lt (n := m') (by rw [g.isDir e2]; omega)
  have r1 := refs_mem e1
  have r2 := refs_mem e2
  have hmm : m = m' := by
    apply Classical.byContradiction
    intro hne
    have h2 : refs (t m).entries n + refs (t m').entries n ≤ allRefs t n := sum_two (fun k => refs (t k).entries n) hne 64 hm hm'
    omega
  subst hmm
  refine ⟨rfl, ?_⟩
  apply Classical.byContradiction
  intro hne
  have h1 : refs (t m).entries n ≤ allRefs t n := sum_ge (fun k => refs (t k).entries n) 64 hm
  have h2 := refs_drop (g.rising m) h n
  have h3 : look (drop (t m).entries x) x' = some n := by rw [look_drop, if_neg (fun e => hne e.symm)]; exact h'
  have h4 := refs_mem (look_mem h3)
  rw [if_pos rfl] at h2
  omega
end Good

theorem walk_append (t : Tr) : ∀ (n : Nat) (xs ys : List Txt), walk t n (xs ++ ys) = match walk t n xs with | .error e => .error e | .ok m => walk t m ys
  | n, [], ys => rfl
  | n, x :: r, ys => by
    rw [List.cons_append, walk, walk]
    split
    · rfl
    · split
      · rfl
      · exact walk_append t _ r ys
theorem walk_snoc {t : Tr} {n k : Nat} {xs : List Txt} {x : Txt} (h : walk t n (xs ++ [x]) = .ok k) : ∃ m, walk t n xs = .ok m ∧ (t m).kind = 1 ∧ look (t m).entries x = some k := by
  rw [walk_append] at h
  split at h
  · cases h
  · next m hm =>
    rw [walk] at h
    split at h
    · cases h
    · next hk =>
      split at h
      · cases h
      · next k' hk' =>
        rw [walk] at h
        injection h with h
        subst h
        exact ⟨m, hm, by omega, hk'⟩
theorem walk_snoc_ok {t : Tr} {n m k : Nat} {xs : List Txt} {x : Txt} (h : walk t n xs = .ok m) (hk : (t m).kind = 1) (hl : look (t m).entries x = some k) : walk t n (xs ++ [x]) = .ok k := by
  rw [walk_append, h]
  show walk t m [x] = _
  rw [walk, if_neg (by omega), hl]
  rfl
/-- What is walked to is a node. -/
theorem Good.walked {t : Tr} (g : Good t) : ∀ {xs : List Txt} {n m : Nat}, (t n).kind ≠ 0 → walk t n xs = .ok m → (t m).kind ≠ 0
  | [], n, m, hn, h => by
    rw [walk] at h
    injection h with h
    subst h
    exact hn
  | x :: r, n, m, hn, h => by
    rw [walk] at h
    split at h
    · cases h
    · split at h
      · cases h
      · next k hk => exact Good.walked g (g.entry n _ (look_mem hk)).2.2 h
/-- The root is at no end of a way. -/
theorem Good.not_root {t : Tr} (g : Good t) {xs : List Txt} {n : Nat} {x : Txt} {k : Nat} (h : walk t n (xs ++ [x]) = .ok k) : k ≠ 0 := by
  obtain ⟨m, _, _, hl⟩ := walk_snoc h
  exact (g.entry m _ (look_mem hl)).2.1
/-- There is one way to a directory. -/
theorem Good.one_way {t : Tr} (g : Good t) : ∀ (N : Nat) {xs ys : List Txt} {n : Nat}, xs.length ≤ N → walk t 0 xs = .ok n → walk t 0 ys = .ok n → (t n).kind = 1 → xs = ys
  | N, xs, ys, n, hN, hx, hy, hd => by
    rcases List.eq_nil_or_concat xs with rfl | ⟨xs', x, rfl⟩
    · rw [walk] at hx
      injection hx with hx
      subst hx
      rcases List.eq_nil_or_concat ys with rfl | ⟨ys', y, rfl⟩
      · rfl
      · rw [List.concat_eq_append] at hy
        exact absurd rfl (g.not_root hy)
    · rw [List.concat_eq_append] at hx hN ⊢
      rcases List.eq_nil_or_concat ys with rfl | ⟨ys', y, rfl⟩
      · rw [walk] at hy
        injection hy with hy
        subst hy
        exact absurd rfl (g.not_root hx)
      · rw [List.concat_eq_append] at hy ⊢
        obtain ⟨m, hm, hmd, hml⟩ := walk_snoc hx
        obtain ⟨m', hm', hmd', hml'⟩ := walk_snoc hy
        obtain ⟨rfl, rfl⟩ := g.only hd hml hml'
        match N, hN with
        | 0, hN => simp at hN
        | N + 1, hN => rw [Good.one_way g N (by simp at hN; omega) hm hm' hmd]

/-- A new node. -/
theorem Good.make {t : Tr} (g : Good t) {kind d n : Nat} {x : Txt} (hk : kind = 1 ∨ kind = 2) (hd : (t d).kind = 1) (hx : look (t d).entries x = none) (hnm : IsName x) (hn : (t n).kind = 0) (hn64 : n < 64) :
    Good ((t.set n ⟨kind, 1, [], []⟩).rows d (put (t d).entries x n)) := by
  have hdn : d ≠ n := fun e => by rw [e, hn] at hd; cases hd
  have hn0 : n ≠ 0 := fun e => by rw [e, g.root.1] at hn; cases hn
  have hd64 := g.lt (n := d) (by omega)
  have hne : (t n).entries = [] := by rw [g.void n hn]; rfl
  have E : ∀ m, (((t.set n ⟨kind, 1, [], []⟩).rows d (put (t d).entries x n)) m).entries = if m = d then put (t d).entries x n else (t m).entries := fun m => by
    rw [Tr.rows_entries]
    by_cases h1 : m = d
    · rw [if_pos h1, if_pos h1]
    · rw [if_neg h1, if_neg h1]
      by_cases h2 : m = n
      · rw [h2, Tr.set_same, hne]
      · rw [Tr.set_other h2]
  have K : ∀ m, (((t.set n ⟨kind, 1, [], []⟩).rows d (put (t d).entries x n)) m).kind = if m = n then kind else (t m).kind := fun m => by
    rw [Tr.rows_kind]
    by_cases h2 : m = n
    · rw [h2, Tr.set_same, if_pos rfl]
    · rw [Tr.set_other h2, if_neg h2]
  have L : ∀ m, (((t.set n ⟨kind, 1, [], []⟩).rows d (put (t d).entries x n)) m).links = if m = n then 1 else (t m).links := fun m => by
    rw [Tr.rows_links]
    by_cases h2 : m = n
    · rw [h2, Tr.set_same, if_pos rfl]
    · rw [Tr.set_other h2, if_neg h2]
  have D : ∀ m, (((t.set n ⟨kind, 1, [], []⟩).rows d (put (t d).entries x n)) m).data = if m = n then [] else (t m).data := fun m => by
    rw [Tr.rows_data]
    by_cases h2 : m = n
    · rw [h2, Tr.set_same, if_pos rfl]
    · rw [Tr.set_other h2, if_neg h2]
  have hnone : ∀ m, m ≠ n → m ≠ d → ((t.set n ⟨kind, 1, [], []⟩).rows d (put (t d).entries x n)) m = t m := fun m h1 h2 => by
    unfold Tr.rows
    rw [Tr.set_other h2, Tr.set_other h1]
  generalize (t.set n ⟨kind, 1, [], []⟩).rows d (put (t d).entries x n) = u at E K L D hnone
  have R : ∀ k, allRefs u k = allRefs t k + if n = k then 1 else 0 := fun k => by
    have := allRefs_change (t := t) (u := u) hd64 (fun m hm => by rw [E m, if_neg hm]) k
    rw [E d, if_pos rfl, refs_put] at this
    omega
  obtain ⟨rk, hrk⟩ := g.rank
  refine ⟨⟨?_, ?_⟩, fun m hm => ?_, fun m hm => ?_, fun m => ?_, fun m hm => ?_, fun m hm => ?_, fun m => ?_, fun m e he => ?_, fun m hm0 hm => ?_, ⟨fun k => if k = n then rk d + 1 else rk k, fun m e he hek => ?_⟩⟩
  · rw [K, if_neg (fun e => hn0 e.symm)]; exact g.root.1
  · rw [L, if_neg (fun e => hn0 e.symm)]; exact g.root.2
  · rw [K, if_neg (by omega)]; exact g.top m hm
  · rw [K] at hm
    by_cases h2 : m = n
    · rw [if_pos h2] at hm; omega
    · rw [if_neg h2] at hm
      have h1 : m ≠ d := fun e => by rw [e, hd] at hm; cases hm
      rw [hnone m h2 h1]
      exact g.void m hm
  · rw [K]
    split
    · omega
    · exact g.kinds m
  · rw [K] at hm
    rw [L, D]
    split at hm
    · next h2 => rw [if_pos h2, if_pos h2]; exact ⟨rfl, rfl⟩
    · next h2 => rw [if_neg h2, if_neg h2]; exact g.dir m hm
  · rw [K] at hm
    rw [E, D]
    have h1 : m ≠ d := fun e => by
      rw [e, if_neg hdn, hd] at hm; cases hm
    rw [if_neg h1]
    split at hm
    · next h2 => rw [if_pos h2, h2, hne]; exact ⟨rfl, by simp⟩
    · next h2 => rw [if_neg h2]; exact g.file m hm
  · rw [E]
    split
    · exact put_rising (g.rising d) hx n
    · exact g.rising m
  · rw [E] at he
    rw [K]
    split at he
    · rcases mem_put.1 he with rfl | he
      · exact ⟨hnm, hn0, by rw [if_pos rfl]; omega⟩
      · obtain ⟨a, b, c⟩ := g.entry d e he
        refine ⟨a, b, ?_⟩
        rw [if_neg (fun h => by rw [h] at c; exact c hn)]
        exact c
    · obtain ⟨a, b, c⟩ := g.entry m e he
      refine ⟨a, b, ?_⟩
      rw [if_neg (fun h => by rw [h] at c; exact c hn)]
      exact c
  · rw [R, L]
    rw [K] at hm
    by_cases h2 : m = n
    · rw [if_pos h2, h2, if_pos rfl, g.zero_refs (Or.inl hn)]
      exact ⟨rfl, Nat.le_refl _⟩
    · rw [if_neg h2] at hm ⊢
      rw [if_neg (fun e => h2 e.symm), Nat.add_zero]
      exact g.count m hm0 hm
  · rw [E] at he
    rw [K] at hek
    have hmn : m ≠ n := fun h => by
      rw [h, if_neg (fun e => hdn e.symm), hne] at he
      cases he
    show (if m = n then rk d + 1 else rk m) < if e.2 = n then rk d + 1 else rk e.2
    rw [if_neg hmn]
    by_cases h2 : e.2 = n
    · rw [if_pos h2]
      split at he
      · next h1 => rw [h1]; omega
      · exact absurd hn (by have := (g.entry m e he).2.2; rw [h2] at this; exact this)
    · rw [if_neg h2] at hek ⊢
      split at he
      · next h1 =>
        rcases mem_put.1 he with rfl | he
        · exact absurd rfl h2
        · rw [h1]; exact hrk d e he hek
      · exact hrk m e he hek

/-- An entry goes; its node too, if that was its last one. -/
theorem Good.unlink {t : Tr} (g : Good t) {a p : Nat} {x : Txt} (hl : look (t p).entries x = some a) (hes : (t a).entries = []) : Good (unlinked t a p x) := by
  have hm := look_mem hl
  have hp := g.isDir hm
  have hp64 := g.lt (n := p) (by omega)
  obtain ⟨_, ha0, hak⟩ := g.entry p _ hm
  have hap : a ≠ p := fun e => by rw [e] at hes; rw [hes] at hl; cases hl
  have hcount := g.count a ha0 hak
  have E : ∀ m, (unlinked t a p x m).entries = if m = p then drop (t p).entries x else (t m).entries := fun m => by
    unfold unlinked
    by_cases h1 : m = a
    · rw [h1, Tr.set_same, if_neg hap, hes]
      split
      · rfl
      · rfl
    · rw [Tr.set_other h1, Tr.rows_entries]
  have K : ∀ m, (unlinked t a p x m).kind = if m = a ∧ (t a).links = 1 then 0 else (t m).kind := fun m => by
    unfold unlinked
    by_cases h1 : m = a
    · rw [h1, Tr.set_same]
      split
      · next h => rw [if_pos ⟨rfl, h⟩]; rfl
      · next h => rw [if_neg (fun h' => h h'.2)]
    · rw [Tr.set_other h1, Tr.rows_kind, if_neg (fun h' => h1 h'.1)]
  have L : ∀ m, (unlinked t a p x m).links = if m = a then (t a).links - 1 else (t m).links := fun m => by
    unfold unlinked
    by_cases h1 : m = a
    · rw [h1, Tr.set_same, if_pos rfl]
      split
      · next h => rw [h]; rfl
      · rfl
    · rw [Tr.set_other h1, Tr.rows_links, if_neg h1]
  have D : ∀ m, (unlinked t a p x m).data = if m = a ∧ (t a).links = 1 then [] else (t m).data := fun m => by
    unfold unlinked
    by_cases h1 : m = a
    · rw [h1, Tr.set_same]
      split
      · next h => rw [if_pos ⟨rfl, h⟩]; rfl
      · next h => rw [if_neg (fun h' => h h'.2)]
    · rw [Tr.set_other h1, Tr.rows_data, if_neg (fun h' => h1 h'.1)]
  have hgone : (t a).links = 1 → unlinked t a p x a = noNode := fun h => by
    unfold unlinked
    rw [Tr.set_same, if_pos h]
  have hsame : ∀ m, m ≠ a → m ≠ p → unlinked t a p x m = t m := fun m h1 h2 => by
    unfold unlinked Tr.rows
    rw [Tr.set_other h1, Tr.set_other h2]
  generalize unlinked t a p x = u at E K L D hgone hsame
  have R : ∀ k, allRefs u k + (if a = k then 1 else 0) = allRefs t k := fun k => by
    have := allRefs_change (t := t) (u := u) hp64 (fun m hm => by rw [E m, if_neg hm]) k
    rw [E p, if_pos rfl, refs_drop (g.rising p) hl k] at this
    omega
  have sub : ∀ m, ∀ e ∈ (u m).entries, e ∈ (t m).entries := fun m e he => by
    rw [E] at he
    split at he
    · next h => rw [h]; exact (mem_drop.1 he).1
    · exact he
  obtain ⟨rk, hrk⟩ := g.rank
  refine ⟨⟨?_, ?_⟩, fun m hm => ?_, fun m hm => ?_, fun m => ?_, fun m hm => ?_, fun m hm => ?_, fun m => ?_, fun m e he => ?_, fun m hm0 hm => ?_, ⟨rk, fun m e he hek => ?_⟩⟩
  · rw [K, if_neg (fun h => ha0 h.1.symm)]; exact g.root.1
  · rw [L, if_neg (fun h => ha0 h.symm)]; exact g.root.2
  · rw [K]
    split
    · rfl
    · exact g.top m hm
  · rw [K] at hm
    split at hm
    · next h => rw [h.1]; exact hgone h.2
    · next h =>
      have h1 : m ≠ p := fun e => by rw [e, hp] at hm; cases hm
      have h2 : m ≠ a := fun e => by rw [e] at hm; exact hak hm
      rw [hsame m h2 h1]
      exact g.void m hm
  · rw [K]
    split
    · omega
    · exact g.kinds m
  · rw [K] at hm
    split at hm
    · cases hm
    · next h =>
      obtain ⟨d1, d2⟩ := g.dir m hm
      rw [L, D, if_neg h]
      refine ⟨?_, d2⟩
      split
      · next h2 => exact absurd ⟨h2, by rw [← h2]; exact d1⟩ h
      · exact d1
  · rw [K] at hm
    split at hm
    · cases hm
    · next h =>
      rw [E, D, if_neg h, if_neg (fun e => by rw [e, hp] at hm; cases hm)]
      exact g.file m hm
  · rw [E]
    split
    · exact drop_rising (g.rising p) x
    · exact g.rising m
  · obtain ⟨e1, e2, e3⟩ := g.entry m e (sub m e he)
    refine ⟨e1, e2, ?_⟩
    rw [K]
    split
    · next h =>
      exfalso
      have h64 : m < 64 := g.lt (by rw [g.isDir (sub m e he)]; omega)
      have h1 := refs_mem (es := (u m).entries) (x := e.1) (n := e.2) he
      have h2 : refs (u m).entries e.2 ≤ allRefs u e.2 := sum_ge (fun k => refs (u k).entries e.2) 64 h64
      have h3 := R e.2
      rw [h.1, if_pos rfl, hcount.1, h.2] at h3
      rw [h.1] at h1 h2
      omega
    · exact e3
  · rw [K] at hm
    have h3 := R m
    split at hm
    · exact absurd rfl hm
    · next h =>
      obtain ⟨c1, c2⟩ := g.count m hm0 hm
      rw [L]
      by_cases h2 : m = a
      · rw [if_pos h2, ← h2]
        rw [if_pos h2.symm] at h3
        have : (t m).links ≠ 1 := fun h4 => h ⟨h2, by rw [← h2]; exact h4⟩
        omega
      · rw [if_neg h2]
        rw [if_neg (fun e => h2 e.symm)] at h3
        omega
  · rw [K] at hek
    split at hek
    · cases hek
    · exact hrk m e (sub m e he) hek

/-- One entry more of a file. -/
theorem Good.link {t : Tr} (g : Good t) {a d : Nat} {x : Txt} (ha : (t a).kind = 2) (hd : (t d).kind = 1) (hx : look (t d).entries x = none) (hnm : IsName x) :
    Good ((t.rows d (put (t d).entries x a)).set a ⟨(t a).kind, (t a).links + 1, (t a).data, (t a).entries⟩) := by
  have hd64 := g.lt (n := d) (by omega)
  have had : a ≠ d := fun e => by rw [e, hd] at ha; cases ha
  have ha0 : a ≠ 0 := fun e => by rw [e, g.root.1] at ha; cases ha
  have E : ∀ m, (((t.rows d (put (t d).entries x a)).set a ⟨(t a).kind, (t a).links + 1, (t a).data, (t a).entries⟩) m).entries = if m = d then put (t d).entries x a else (t m).entries := fun m => by
    by_cases h1 : m = a
    · rw [h1, Tr.set_same, if_neg had]
    · rw [Tr.set_other h1, Tr.rows_entries]
  have K : ∀ m, (((t.rows d (put (t d).entries x a)).set a ⟨(t a).kind, (t a).links + 1, (t a).data, (t a).entries⟩) m).kind = (t m).kind := fun m => by
    by_cases h1 : m = a
    · rw [h1, Tr.set_same]
    · rw [Tr.set_other h1, Tr.rows_kind]
  have L : ∀ m, (((t.rows d (put (t d).entries x a)).set a ⟨(t a).kind, (t a).links + 1, (t a).data, (t a).entries⟩) m).links = if m = a then (t a).links + 1 else (t m).links := fun m => by
    by_cases h1 : m = a
    · rw [h1, Tr.set_same, if_pos rfl]
    · rw [Tr.set_other h1, Tr.rows_links, if_neg h1]
  have D : ∀ m, (((t.rows d (put (t d).entries x a)).set a ⟨(t a).kind, (t a).links + 1, (t a).data, (t a).entries⟩) m).data = (t m).data := fun m => by
    by_cases h1 : m = a
    · rw [h1, Tr.set_same]
    · rw [Tr.set_other h1, Tr.rows_data]
  have hsame : ∀ m, m ≠ a → m ≠ d → ((t.rows d (put (t d).entries x a)).set a ⟨(t a).kind, (t a).links + 1, (t a).data, (t a).entries⟩) m = t m := fun m h1 h2 => by
    unfold Tr.rows
    rw [Tr.set_other h1, Tr.set_other h2]
  generalize (t.rows d (put (t d).entries x a)).set a ⟨(t a).kind, (t a).links + 1, (t a).data, (t a).entries⟩ = u at E K L D hsame
  have R : ∀ k, allRefs u k = allRefs t k + if a = k then 1 else 0 := fun k => by
    have := allRefs_change (t := t) (u := u) hd64 (fun m hm => by rw [E m, if_neg hm]) k
    rw [E d, if_pos rfl, refs_put] at this
    omega
  obtain ⟨rk, hrk⟩ := g.rank
  refine ⟨⟨?_, ?_⟩, fun m hm => ?_, fun m hm => ?_, fun m => ?_, fun m hm => ?_, fun m hm => ?_, fun m => ?_, fun m e he => ?_, fun m hm0 hm => ?_, ⟨rk, fun m e he hek => ?_⟩⟩
  · rw [K]; exact g.root.1
  · rw [L, if_neg (fun h => ha0 h.symm)]; exact g.root.2
  · rw [K]; exact g.top m hm
  · rw [K] at hm
    rw [hsame m (fun e => by rw [e, ha] at hm; cases hm) (fun e => by rw [e, hd] at hm; cases hm)]
    exact g.void m hm
  · rw [K]; exact g.kinds m
  · rw [K] at hm
    rw [L, D, if_neg (fun e => by rw [e, ha] at hm; cases hm)]
    exact g.dir m hm
  · rw [K] at hm
    rw [E, D, if_neg (fun e => by rw [e, hd] at hm; cases hm)]
    exact g.file m hm
  · rw [E]
    split
    · exact put_rising (g.rising d) hx a
    · exact g.rising m
  · rw [E] at he
    rw [K]
    split at he
    · rcases mem_put.1 he with rfl | he
      · exact ⟨hnm, ha0, by show (t a).kind ≠ 0; omega⟩
      · exact g.entry d e he
    · exact g.entry m e he
  · rw [K] at hm
    obtain ⟨c1, c2⟩ := g.count m hm0 hm
    rw [R, L]
    by_cases h2 : m = a
    · rw [if_pos h2, if_pos h2.symm, ← h2]
      omega
    · rw [if_neg h2, if_neg (fun e => h2 e.symm)]
      omega
  · rw [E] at he
    rw [K] at hek
    split at he
    · next h1 =>
      rcases mem_put.1 he with rfl | he
      · have hek : (t a).kind = 1 := hek
        rw [ha] at hek; cases hek
      · rw [h1]; exact hrk d e he hek
    · exact hrk m e he hek

theorem moved_entries (t : Tr) (a p : Nat) (x : Txt) (d : Nat) (y : Txt) (m : Nat) :
    (moved t a p x d y m).entries = if m = d then put (if d = p then drop (t p).entries x else (t d).entries) y a else if m = p then drop (t p).entries x else (t m).entries := by
  unfold moved
  rw [Tr.rows_entries, Tr.rows_entries, Tr.rows_entries]
theorem moved_kind (t : Tr) (a p : Nat) (x : Txt) (d : Nat) (y : Txt) (m : Nat) : (moved t a p x d y m).kind = (t m).kind := by
  unfold moved
  rw [Tr.rows_kind, Tr.rows_kind]
theorem moved_links (t : Tr) (a p : Nat) (x : Txt) (d : Nat) (y : Txt) (m : Nat) : (moved t a p x d y m).links = (t m).links := by
  unfold moved
  rw [Tr.rows_links, Tr.rows_links]
theorem moved_data (t : Tr) (a p : Nat) (x : Txt) (d : Nat) (y : Txt) (m : Nat) : (moved t a p x d y m).data = (t m).data := by
  unfold moved
  rw [Tr.rows_data, Tr.rows_data]
theorem moved_refs {t : Tr} (g : Good t) {a p d : Nat} {x y : Txt} (hl : look (t p).entries x = some a) (hd : (t d).kind = 1) (k : Nat) : allRefs (moved t a p x d y) k = allRefs t k := by
  have hp64 := g.lt (n := p) (by rw [g.isDir (look_mem hl)]; omega)
  have hd64 := g.lt (n := d) (by omega)
  have r1 := allRefs_change (t := t) (u := t.rows p (drop (t p).entries x)) hp64 (fun m hm => by rw [Tr.rows_entries, if_neg hm]) k
  rw [Tr.rows_entries, if_pos rfl, refs_drop (g.rising p) hl k] at r1
  have r2 := allRefs_change (t := t.rows p (drop (t p).entries x)) (u := moved t a p x d y) hd64 (fun m hm => by unfold moved; rw [Tr.rows_entries (t := t.rows p (drop (t p).entries x)), if_neg hm]) k
  have e : (moved t a p x d y d).entries = put ((t.rows p (drop (t p).entries x)) d).entries y a := by unfold moved; rw [Tr.rows_entries (t := t.rows p (drop (t p).entries x)), if_pos rfl]
  rw [e, refs_put] at r2
  omega

open Classical in
/-- An entry goes elsewhere: a directory not beneath itself. -/
theorem Good.move {t : Tr} (g : Good t) {a p d : Nat} {x y : Txt} (hl : look (t p).entries x = some a) (hd : (t d).kind = 1) (hy : look (t d).entries y = none) (hnm : IsName y) (hno : (t a).kind = 1 → ∀ rs, walk t a rs ≠ .ok d) :
    Good (moved t a p x d y) := by
  have hm := look_mem hl
  have hp := g.isDir hm
  obtain ⟨_, ha0, hak⟩ := g.entry p _ hm
  have E := moved_entries t a p x d y
  have K := moved_kind t a p x d y
  have L := moved_links t a p x d y
  have D := moved_data t a p x d y
  have R := moved_refs (x := x) (y := y) g hl hd
  generalize moved t a p x d y = u at E K L D R
  have hrise : Rising (if d = p then drop (t p).entries x else (t d).entries) := by
    split
    · exact drop_rising (g.rising p) x
    · exact g.rising d
  have hlook : look (if d = p then drop (t p).entries x else (t d).entries) y = none := by
    split
    · next h =>
      rw [look_drop]
      split
      · rfl
      · rw [← h]; exact hy
    · exact hy
  have mem : ∀ m, ∀ e ∈ (u m).entries, (m = d ∧ e = (y, a)) ∨ (e ∈ (t m).entries ∧ (m = p → e.1 ≠ x)) := fun m e he => by
    rw [E] at he
    split at he
    · next h1 =>
      rcases mem_put.1 he with rfl | he
      · exact Or.inl ⟨h1, rfl⟩
      · split at he
        · next h2 =>
          obtain ⟨q1, q2⟩ := mem_drop.1 he
          exact Or.inr ⟨by rw [h1, h2]; exact q1, fun _ => q2⟩
        · next h2 => exact Or.inr ⟨by rw [h1]; exact he, fun h3 => absurd (h1.symm.trans h3) h2⟩
    · split at he
      · next h2 =>
        obtain ⟨q1, q2⟩ := mem_drop.1 he
        exact Or.inr ⟨by rw [h2]; exact q1, fun _ => q2⟩
      · next h2 => exact Or.inr ⟨he, fun h3 => absurd h3 h2⟩
  obtain ⟨rk, hrk⟩ := g.rank
  refine ⟨⟨?_, ?_⟩, fun m hm => ?_, fun m hm => ?_, fun m => ?_, fun m hm => ?_, fun m hm => ?_, fun m => ?_, fun m e he => ?_, fun m hm0 hm => ?_, ⟨fun k => if (t a).kind = 1 ∧ ∃ rs, walk t a rs = .ok k then rk k + rk d + 1 else rk k, fun m e he hek => ?_⟩⟩
  · rw [K]; exact g.root.1
  · rw [L]; exact g.root.2
  · rw [K]; exact g.top m hm
  · rw [K] at hm
    have h1 := g.void m hm
    have he : (u m).entries = [] := by
      rw [E, if_neg (fun e => by rw [e, hd] at hm; cases hm), if_neg (fun e => by rw [e, hp] at hm; cases hm), h1]
      rfl
    have hk := K m
    have hl := L m
    have hdd := D m
    rw [h1] at hk hl hdd
    cases hu : u m with
    | mk k l dd ee =>
      rw [hu] at hk hl hdd he
      have hk : k = 0 := hk
      have hl : l = 0 := hl
      have hdd : dd = [] := hdd
      have he : ee = [] := he
      subst hk hl hdd he
      rfl
  · rw [K]; exact g.kinds m
  · rw [K] at hm
    rw [L, D]
    exact g.dir m hm
  · rw [K] at hm
    rw [E, D, if_neg (fun e => by rw [e, hd] at hm; cases hm), if_neg (fun e => by rw [e, hp] at hm; cases hm)]
    exact g.file m hm
  · rw [E]
    split
    · exact put_rising hrise hlook a
    · split
      · exact drop_rising (g.rising p) x
      · exact g.rising m
  · rw [K]
    rcases mem m e he with ⟨_, rfl⟩ | ⟨h, _⟩
    · exact ⟨hnm, ha0, hak⟩
    · exact g.entry m e h
  · rw [K] at hm
    rw [R, L]
    exact g.count m hm0 hm
  · rw [K] at hek
    show (if (t a).kind = 1 ∧ ∃ rs, walk t a rs = .ok m then rk m + rk d + 1 else rk m) < if (t a).kind = 1 ∧ ∃ rs, walk t a rs = .ok e.2 then rk e.2 + rk d + 1 else rk e.2
    rcases mem m e he with ⟨h1, rfl⟩ | ⟨h1, h2⟩
    · have hek : (t a).kind = 1 := hek
      rw [h1, if_neg (fun h => by obtain ⟨_, rs, hrs⟩ := h; exact hno hek rs hrs), if_pos ⟨hek, [], rfl⟩]
      omega
    · have hlt := hrk m e h1 hek
      have hmd := g.isDir h1
      have hle := look_of_mem (g.rising m) (x := e.1) (k := e.2) h1
      by_cases hb : (t a).kind = 1 ∧ ∃ rs, walk t a rs = .ok m
      · obtain ⟨ha1, rs, hrs⟩ := hb
        rw [if_pos ⟨ha1, rs, hrs⟩, if_pos ⟨ha1, rs ++ [e.1], walk_snoc_ok hrs hmd hle⟩]
        omega
      · rw [if_neg hb, if_neg]
        · exact hlt
        · rintro ⟨ha1, rs, hrs⟩
          rcases List.eq_nil_or_concat rs with rfl | ⟨rs', z, rfl⟩
          · rw [walk] at hrs
            injection hrs with hrs
            rw [← hrs] at hle
            obtain ⟨q1, q2⟩ := g.only ha1 hle hl
            exact h2 q1 q2
          · rw [List.concat_eq_append] at hrs
            obtain ⟨m', hm', _, hl'⟩ := walk_snoc hrs
            obtain ⟨q1, _⟩ := g.only hek hle hl'
            rw [← q1] at hm'
            exact hb ⟨ha1, rs', hm'⟩

/-- Other bytes in a file. -/
theorem Good.filled {t : Tr} (g : Good t) {a : Nat} {b : Txt} (ha : (t a).kind = 2) (hb : b.length ≤ 512) : Good (t.bytes a b) := by
  have E : ∀ m, (t.bytes a b m).entries = (t m).entries := fun m => by
    unfold Tr.bytes
    by_cases h : m = a
    · rw [h, Tr.set_same]
    · rw [Tr.set_other h]
  have K : ∀ m, (t.bytes a b m).kind = (t m).kind := fun m => by
    unfold Tr.bytes
    by_cases h : m = a
    · rw [h, Tr.set_same]
    · rw [Tr.set_other h]
  have L : ∀ m, (t.bytes a b m).links = (t m).links := fun m => by
    unfold Tr.bytes
    by_cases h : m = a
    · rw [h, Tr.set_same]
    · rw [Tr.set_other h]
  have D : ∀ m, (t.bytes a b m).data = if m = a then b else (t m).data := fun m => by
    unfold Tr.bytes
    by_cases h : m = a
    · rw [h, Tr.set_same, if_pos rfl]
    · rw [Tr.set_other h, if_neg h]
  have S : ∀ m, m ≠ a → t.bytes a b m = t m := fun m h => Tr.set_other h _
  generalize t.bytes a b = u at E K L D S
  have R := allRefs_same (t := t) (u := u) E
  obtain ⟨rk, hrk⟩ := g.rank
  refine ⟨⟨?_, ?_⟩, fun m hm => ?_, fun m hm => ?_, fun m => ?_, fun m hm => ?_, fun m hm => ?_, fun m => ?_, fun m e he => ?_, fun m hm0 hm => ?_, ⟨rk, fun m e he hek => ?_⟩⟩
  · rw [K]; exact g.root.1
  · rw [L]; exact g.root.2
  · rw [K]; exact g.top m hm
  · rw [K] at hm
    rw [S m (fun e => by rw [e, ha] at hm; cases hm)]
    exact g.void m hm
  · rw [K]; exact g.kinds m
  · rw [K] at hm
    rw [L, D, if_neg (fun e => by rw [e, ha] at hm; cases hm)]
    exact g.dir m hm
  · rw [K] at hm
    rw [E, D]
    refine ⟨(g.file m hm).1, ?_⟩
    split
    · exact hb
    · exact (g.file m hm).2
  · rw [E]; exact g.rising m
  · rw [E] at he
    rw [K]
    exact g.entry m e he
  · rw [K] at hm
    rw [R, L]
    exact g.count m hm0 hm
  · rw [E] at he
    rw [K] at hek
    exact hrk m e he hek
theorem good_new : Good newT := by
  have hE : ∀ m, (newT m).entries = [] := fun m => by unfold newT; split <;> rfl
  refine ⟨⟨rfl, rfl⟩, fun n h => ?_, fun n h => ?_, fun n => ?_, fun n h => ?_, fun n h => ?_, fun n => ?_, fun n e he => ?_, fun n h0 h => ?_, ⟨fun _ => 0, fun n e he _ => ?_⟩⟩
  · unfold newT; rw [if_neg (by omega)]; rfl
  · unfold newT at h ⊢
    split
    · next hh => rw [if_pos hh] at h; cases h
    · rfl
  · unfold newT; split <;> simp [noNode]
  · unfold newT at h ⊢
    split
    · exact ⟨rfl, rfl⟩
    · next hh => rw [if_neg hh] at h; cases h
  · unfold newT at h
    split at h <;> cases h
  · rw [hE]; exact List.Pairwise.nil
  · rw [hE] at he; cases he
  · unfold newT at h
    rw [if_neg h0] at h
    exact absurd rfl h
  · rw [hE] at he; cases he
end Go.Proofs.YtlkiaghpdjbfeaaDoor

namespace Go.Proofs.YtlkiaghpdjbfeaaDoor
open Go.RowKit

/-- An entry's cells. -/
def entCells (e : Txt × Nat) : List Value := [.string (ba e.1), .int .i64 (e.2 : Int)]
def rowCells (es : Row) : List Value := es.flatMap entCells
theorem rowCells_append (a b : Row) : rowCells (a ++ b) = rowCells a ++ rowCells b := List.flatMap_append
theorem rowCells_length (es : Row) : (rowCells es).length = es.length * 2 := by
  induction es with
  | nil => rfl
  | cons e r ih =>
    show (entCells e ++ rowCells r).length = _
    rw [List.length_append, ih, List.length_cons]
    simp [entCells]
    omega
theorem rowCells_one (es : Row) : ∀ u ∈ rowCells es, u.oneCell' = true := by
  intro u hu
  obtain ⟨e, _, he⟩ := List.mem_flatMap.1 hu
  simp [entCells] at he
  rcases he with rfl | rfl <;> rfl
theorem rowCells_get {es : Row} {j : Nat} {e : Txt × Nat} (h : es[j]? = some e) : (rowCells es)[j * 2]? = some (.string (ba e.1)) ∧ (rowCells es)[j * 2 + 1]? = some (.int .i64 (e.2 : Int)) := by
  induction es generalizing j with
  | nil => simp at h
  | cons x r ih =>
    have e1 : rowCells (x :: r) = .string (ba x.1) :: .int .i64 (x.2 : Int) :: rowCells r := rfl
    rw [e1]
    rcases j with _ | j
    · injection h with h
      subst h
      exact ⟨rfl, rfl⟩
    · have := ih (j := j) (by simpa using h)
      have e2 : (j + 1) * 2 = j * 2 + 1 + 1 := by omega
      rw [e2]
      exact ⟨this.1, this.2⟩
/-- From the address A on, in blocks below B, the cells hold the entries es. -/
def Ents (w : World) (B : Nat) (A : Option Addr) (es : Row) : Prop :=
  ∀ j e, es[j]? = some e → ∃ b o, A = some ⟨b, o, none⟩ ∧ b < B ∧ w.cell? ⟨b, o + j * 2, none⟩ = some (.string (ba e.1)) ∧ w.cell? ⟨b, o + j * 2 + 1, none⟩ = some (.int .i64 (e.2 : Int))
section
variable {w w' : World} {A : Option Addr} {es : Row} {B B' : Nat}
theorem Ents.nil : Ents w B A [] := fun j e h => by simp at h
theorem Ents.far (h : Ents w B A es) (hk : ∀ p : Addr, p.block < B → w'.cell? p = w.cell? p) : Ents w' B A es := fun j e hj => by
  obtain ⟨b, o, rfl, hb, h1, h2⟩ := h j e hj
  exact ⟨b, o, rfl, hb, (hk _ hb).trans h1, (hk _ hb).trans h2⟩
theorem Ents.more (h : Ents w B A es) (hB : B ≤ B') : Ents w B' A es := fun j e hj => by
  obtain ⟨b, o, rfl, hb, h1, h2⟩ := h j e hj
  exact ⟨b, o, rfl, by omega, h1, h2⟩
theorem Ents.keep {S : Nat → Prop} (h : Ents w B A es) (hB : B ≤ w.heap.size) (k : Keep S w w') (hS : ∀ a : Addr, A = some a → ¬ S a.block) : Ents w' B A es := fun j e hj => by
  obtain ⟨b, o, rfl, hb, h1, h2⟩ := h j e hj
  have hn : ¬ S b := hS _ rfl
  exact ⟨b, o, rfl, hb, (k.cell (by show b < _; omega) hn).trans h1, (k.cell (by show b < _; omega) hn).trans h2⟩
theorem Ents.drewN (h : Ents w B A es) (n : Nat) : Ents (w.drewN n) B A es := h
theorem Ents.drop {b o : Nat} (h : Ents w B (some ⟨b, o, none⟩) es) (k : Nat) : Ents w B (some ⟨b, o + k * 2, none⟩) (es.drop k) := fun j e hj => by
  rw [List.getElem?_drop] at hj
  obtain ⟨b', o', ha, hb, h1, h2⟩ := h (k + j) e hj
  injection ha with ha
  injection ha with ha1 ha2
  subst ha1 ha2
  have e : o + k * 2 + j * 2 = o + (k + j) * 2 := by omega
  exact ⟨b, _, rfl, hb, by rw [e]; exact h1, by rw [e]; exact h2⟩
theorem Ents.take (h : Ents w B A es) (k : Nat) : Ents w B A (es.take k) := fun j e hj => h j e (by
  rw [List.getElem?_take] at hj
  split at hj
  · exact hj
  · cases hj)
theorem Ents.at_ (h : Ents w B A es) {j : Nat} (hj : j < es.length) : ∃ b o, A = some ⟨b, o, none⟩ ∧ b < B ∧ w.cell? ⟨b, o + j * 2, none⟩ = some (.string (ba es[j].1)) ∧ w.cell? ⟨b, o + j * 2 + 1, none⟩ = some (.int .i64 (es[j].2 : Int)) :=
  h j _ (List.getElem?_eq_getElem hj)
end

/-- What the laws on append ask of a type of rows of entries. -/
structure Et (P : Program) (T E : TypeId) : Prop where
  under : P.underlying T = some (.slice E)
  info : ∃ i z, P.info? E = some i ∧ i.zero = some z ∧ i.size = 2 ∧ i.bytes = 24 ∧ z.cells.size = 2
/-- The value v is a row of the call's own that holds the entries es. -/
def OwnE (E : TypeId) (w : World) (v : Value) (es : Row) : Prop := w.ownsRow 0 E 2 v es.length (rowCells es)
section
variable {P : Program} {E : TypeId} {w w' : World} {v : Value} {es : Row}
theorem OwnE.shape (h : OwnE E w v es) : ∃ A c, v = .slice A es.length c ∧ es.length ≤ c ∧ c ≤ maxLen ∧ Ents w w.heap.size A es ∧ (∀ a : Addr, A = some a → v.ownBlock = some a.block) := by
  rcases h.2 with ⟨rfl, h0⟩ | ⟨g, cap, cur, rfl, _, hg, hnc, hcm, _⟩
  · have : es = [] := List.eq_nil_of_length_eq_zero h0
    subst this
    exact ⟨none, 0, rfl, Nat.le_refl _, Nat.zero_le _, Ents.nil, fun a ha => by cases ha⟩
  · refine ⟨some ⟨g, 0, none⟩, cap, rfl, hnc, hcm, fun j e hj => ?_, fun a ha => ?_⟩
    · have hlt := (Array.getElem?_eq_some_iff.1 hg).1
      obtain ⟨c1, c2⟩ := rowCells_get hj
      have h1 := World.ownsRow.cells (g := g) h rfl _ _ c1
      have h2 := World.ownsRow.cells (g := g) h rfl _ _ c2
      rw [add_flat] at h1 h2
      exact ⟨g, 0, rfl, hlt, h1, by rw [Nat.add_assoc]; exact h2⟩
    · injection ha with ha
      subst ha
      rfl
theorem OwnE.alloc (h : OwnE E w v es) (o : Obj) : OwnE E (w.alloc o) v es := World.ownsRow.alloc h o
theorem OwnE.empty (E : TypeId) (w : World) : OwnE E (w.alloc (.cells #[] E)) (.slice (some ⟨w.heap.size, 0, none⟩) 0 0) [] :=
  ⟨rfl, .inr ⟨w.heap.size, 0, #[], rfl, Nat.zero_le _, heap_alloc_new w _, Nat.le_refl _, Nat.zero_le _, rfl, rfl⟩⟩
theorem OwnE.kept {S : Nat → Prop} (h : OwnE E w v es) (hk : Keep S w w') (hs : ∀ k, v.ownBlock = some k → ¬ S k) : OwnE E w' v es := by
  refine ⟨h.1, ?_⟩
  rcases h.2 with h0 | ⟨g, cap, cur, hv, hb, hg, hnc, hcm, hcs, ht⟩
  · exact .inl h0
  · refine .inr ⟨g, cap, cur, hv, hb, ?_, hnc, hcm, hcs, ht⟩
    rw [hk.block g (Array.getElem?_eq_some_iff.1 hg).1 (hs g (by rw [hv]; rfl))]
    exact hg
end
section
variable {P : Program} (w : World)
theorem ents_one (e : Txt × Nat) (E : TypeId) : Ents (w.alloc (.cells #[.string (ba e.1), .int .i64 (e.2 : Int)] E)) (w.heap.size + 1) (some ⟨w.heap.size, 0, none⟩) [e] := fun j x hj => by
  rcases j with _ | j
  · injection hj with hj
    subst hj
    refine ⟨_, _, rfl, by omega, ?_, ?_⟩
    · rw [World.cell?_alloc_mark]; rfl
    · rw [World.cell?_alloc_mark]; rfl
  · simp at hj
theorem run_append_ent {T E : TypeId} (U : Et P T E) (ty : TypeId) (v : Value) (es : Row) (hown : OwnE E w v es) (B : Nat) (A : Option Addr) (c : Nat) (fs : Row) (n : Nat) (hn : n = fs.length) (hr : Ents w B A fs)
    (hb : es.length + fs.length ≤ 1000000000) :
    ∃ v' w', (Builtin.append_ #[T, T] ty #[v, .slice A n c]).run P w = .ok v' w' ∧ OwnE E w' v' (es ++ fs) ∧ w.grownBy w' v.ownBlock ∧ (v'.ownBlock = v.ownBlock ∨ v'.ownBlock = some w.heap.size) := by
  subst hn
  obtain ⟨i, z, hi, hz, hs, hby, hzs⟩ := U.info
  rcases hm : A with _ | ad
  · have : fs = [] := by
      rcases fs with _ | ⟨b, m⟩
      · rfl
      · obtain ⟨b, o, h, _⟩ := hr 0 b rfl
        rw [hm] at h
        cases h
    subst this
    refine ⟨v, w, ?_, by simpa using hown, World.grownBy.refl w _, .inl rfl⟩
    rcases hown.2 with ⟨rfl, h0⟩ | ⟨g, cap, cur, rfl, _, _, hnc, _⟩
    · simp [Builtin.append_, run_underlying U.under, sizeOf, typeInfo, hi, Builtin.lenOf, Builtin.firstCells]
    · simp [Builtin.append_, run_underlying U.under, sizeOf, typeInfo, hi, Builtin.lenOf, Builtin.firstCells, hnc, storeCells]
  · subst hm
    have hcells : ∀ j u, (rowCells fs)[j]? = some u → w.cell? (ad.add j) = some u := by
      intro j u hu
      have hlt : j < fs.length * 2 := by
        rcases Nat.lt_or_ge j (fs.length * 2) with h | h
        · exact h
        · rw [List.getElem?_eq_none (by rw [rowCells_length]; exact h)] at hu; cases hu
      have hq : j / 2 < fs.length := by omega
      obtain ⟨b, o, e, _, h1, h2⟩ := hr.at_ hq
      injection e with e
      subst e
      obtain ⟨c1, c2⟩ := rowCells_get (List.getElem?_eq_getElem hq)
      rw [add_flat]
      rcases Nat.mod_two_eq_zero_or_one j with hm | hm
      · have ej : j / 2 * 2 = j := by omega
        rw [ej] at c1 h1
        rw [c1] at hu
        injection hu with hu
        rw [← hu]
        exact h1
      · have ej : j / 2 * 2 + 1 = j := by omega
        rw [ej] at c2
        rw [Nat.add_assoc, ej] at h2
        rw [c2] at hu
        injection hu with hu
        rw [← hu]
        exact h2
    obtain ⟨v', w', hrun, h2, h3, _, h5⟩ := run_append_own_at (P := P) w 0 T ty E i z 2 24 U.under hi hz hs hby hzs (by omega) v es.length (rowCells es) hown ad fs.length c (rowCells fs) (rowCells_length fs) hcells
      (rowCells_one fs) (by simp only [maxLen]; omega) (by omega) (Nat.zero_le _)
    exact ⟨v', w', hrun, by simpa [OwnE, rowCells_append] using h2, h3, h5⟩
theorem wpList_append_ent {ops : Array Oper} {rest : List Oper} {o : Oper} {a : Act} {Q : Exit → Act → World → Prop} (hgd : o.guard = none) (s x : Operand) (T : TypeId)
    (ho : o.op = .call { callee := .builtin .append, args := #[s, x], argTypes := #[T, T] }) {E : TypeId} (U : Et P T E) (v : Value) (es : Row) (hs : a.eval s = v) (hown : OwnE E w v es) (B : Nat) (A : Option Addr) (n c : Nat) (fs : Row)
    (hx : a.eval x = .slice A n c) (hn : n = fs.length) (hr : Ents w B A fs) (hb : es.length + fs.length ≤ 1000000000)
    (h : ∀ A' n' c' w', OwnE E w' (.slice A' n' c') (es ++ fs) → Hid (n' = (es ++ fs).length) → n' ≤ c' → c' ≤ maxLen → w.grownBy w' v.ownBlock → ((Value.slice A' n' c').ownBlock = v.ownBlock ∨ (Value.slice A' n' c').ownBlock = some w.heap.size) → wpList P ops Q rest (a.put o.dst (.slice A' n' c')) w') : wpList P ops Q (o :: rest) a w := by
  refine wpList_plain hgd fun K hK => ?_
  obtain ⟨v', w', hrun, h2, h3, h4⟩ := run_append_ent (P := P) w U o.type v es hown B A c fs n hn hr hb
  unfold Oper.wp execOp
  simp only [ho, resolve, invoke, builtin, Sem.run_bind, Sem.run_pure, Result.andThen_ok, List.map_toArray, List.map_cons, List.map_nil, hs, hx, hrun]
  obtain ⟨A', c', rfl, hle, hm, _, _⟩ := h2.shape
  exact hK _ _ (h _ _ _ w' h2 rfl hle hm h3 h4)
end
end Go.Proofs.YtlkiaghpdjbfeaaDoor

namespace Go.Proofs.YtlkiaghpdjbfeaaDoor
open Go.RowKit
variable {Zp : Nat → Prop}

/-- Node n of the tree in block g. -/
structure RNode (Zp : Nat → Prop) (w : World) (g n : Nat) (x : TNode) : Prop where
  num : w.cell? ⟨g, n * 5, none⟩ = some (.int .i64 ((if x.kind = 0 then 0 else n : Nat) : Int))
  kind : w.cell? ⟨g, n * 5 + 1, none⟩ = some (.int .i64 (x.kind : Int))
  links : w.cell? ⟨g, n * 5 + 2, none⟩ = some (.int .i64 (x.links : Int))
  data : ∃ A c, w.cell? ⟨g, n * 5 + 3, none⟩ = some (.slice A x.data.length c) ∧ Rd w w.heap.size A x.data ∧ ∀ a : Addr, A = some a → a.block ≠ g ∧ (x.data ≠ [] → Zp a.block)
  ents : ∃ A c, w.cell? ⟨g, n * 5 + 4, none⟩ = some (.slice A x.entries.length c) ∧ x.entries.length ≤ c ∧ c ≤ maxLen ∧ Ents w w.heap.size A x.entries ∧ ∀ a : Addr, A = some a → a.block ≠ g ∧ (x.entries ≠ [] → Zp a.block)
structure RefAt (Zp : Nat → Prop) (w : World) (g : Nat) (t : Tr) : Prop where
  blk : ∃ cs, w.heap[g]? = some (.cells cs 49 (0, 0)) ∧ cs.size = 320
  node : ∀ n, n < 64 → RNode Zp w g n (t n)
  new : ∀ b, w.heap.size ≤ b → Zp b
section
variable {w w' : World} {g n : Nat} {x : TNode} {t : Tr}
theorem RNode.keep {S : Nat → Prop} (h : RNode Zp w g n x) (k : Keep S w w') (hl : g < w.heap.size) (hg : ¬ S g) (hS : ∀ i, S i → i = g ∨ w.heap.size ≤ i) : RNode Zp w' g n x := by
  have c : ∀ j, w'.cell? ⟨g, j, none⟩ = w.cell? ⟨g, j, none⟩ := fun j => k.cell (p := ⟨g, j, none⟩) hl hg
  obtain ⟨A, d, h1, h2, h3⟩ := h.data
  obtain ⟨A', d', e1, e2, e3, e4, e5⟩ := h.ents
  have far : ∀ b, b < w.heap.size → b ≠ g → ¬ S b := fun b hb hn hs => by rcases hS b hs with h | h <;> omega
  refine ⟨(c _).trans h.num, (c _).trans h.kind, (c _).trans h.links, ⟨A, d, (c _).trans h1, ?_, h3⟩, ⟨A', d', (c _).trans e1, e2, e3, ?_, e5⟩⟩
  · intro j b hj
    obtain ⟨a, rfl, hb, hc⟩ := h2 j b hj
    have hs := k.size
    exact ⟨a, rfl, by omega, (k.cell (by rw [block_add]; exact hb) (by rw [block_add]; exact far _ hb (h3 a rfl).1)).trans hc⟩
  · intro j e hj
    obtain ⟨b, o, rfl, hb, m1, m2⟩ := e4 j e hj
    have hs := k.size
    have hn := far b hb (e5 _ rfl).1
    exact ⟨b, o, rfl, by omega, (k.cell (p := ⟨b, o + j * 2, none⟩) hb hn).trans m1, (k.cell (p := ⟨b, o + j * 2 + 1, none⟩) hb hn).trans m2⟩
theorem RefAt.lt (h : RefAt Zp w g t) : g < w.heap.size := by obtain ⟨cs, h, _⟩ := h.blk; exact lt_of_block h
theorem RefAt.kept (h : RefAt Zp w g t) (k : KF w w') : RefAt Zp w' g t := by
  obtain ⟨cs, h1, h2⟩ := h.blk
  exact ⟨⟨cs, (k.block g h.lt (fun h => h)).trans h1, h2⟩, fun n hn => (h.node n hn).keep k h.lt (fun h => h) (fun _ h => h.elim), fun b hb => h.new b (Nat.le_trans k.size hb)⟩
theorem RefAt.free (h : RefAt Zp w g t) (j : Nat) : w.frozen? ⟨g, j, none⟩ = false := by
  obtain ⟨cs, h1, _⟩ := h.blk
  simp [World.frozen?, h1]
end
/-- What the reference says of an entry that is looked up. -/
def lookI : Option Nat → Int
  | some k => k
  | none => -1
theorem look_take_none {es : Row} {x : Txt} {k : Nat} (h : look (es.take k) x = none) (hk : k < es.length) (hx : es[k].1 ≠ x) : look (es.take (k + 1)) x = none := by
  rw [List.take_succ_eq_append_getElem hk, look_append, h]
  simp [look, hx]
theorem look_take_some {es : Row} {x : Txt} {k : Nat} (h : look (es.take k) x = none) (hk : k < es.length) (hx : es[k].1 = x) : look es x = some es[k].2 := by
  have e : es = es.take k ++ es[k] :: es.drop (k + 1) := by rw [List.getElem_cons_drop, List.take_append_drop]
  have : look (es.take k ++ es[k] :: es.drop (k + 1)) x = some es[k].2 := by
    rw [look_append, h]
    simp [look, hx]
  rwa [← e] at this
set_option maxRecDepth 100000 in
theorem rentry_any (w : World) (g : Nat) (t : Tr) (n : Nat) (x : Txt) (h : RefAt Zp w g t) (hn : n < 64) (hb : (t n).entries.length ≤ 1000000) :
    Calls Tryd.prog 54 #[.pointer (some ⟨g, 0, none⟩), .int .i64 n, .string (ba x)] w fun e w' => e = .returned (.int .i64 (lookI (look (t n).entries x))) ∧ KF w w' := by
  obtain ⟨A, c, h1, h2, h3, h4, h5⟩ := (h.node n hn).ents
  have hni : (n : Int) < 64 := by omega
  have HT := Lib.hid h4
  clear h h4 h5
  generalize (t n).entries = es at *
  obtain ⟨len, hlen⟩ : ∃ len, es.length = len := ⟨_, rfl⟩
  rw [hlen] at h1 h2 hb
  have HL := Lib.hid hlen
  clear hlen
  obtain ⟨sx, hsx⟩ : ∃ sx, ba x = sx := ⟨_, rfl⟩
  have HX := Lib.hid hsx
  rw [hsx]
  clear hsx
  have FIN : Hid (∀ z : Int, lookI (look es x) = z → ∀ X, KF w X → (Ending.returned (.int .i64 z) = .returned (.int .i64 (lookI (look es x))) ∧ KF w X)) := Lib.hid fun z hz X k => ⟨by rw [hz], k⟩
  have STOP := Lib.hid fun (k : Nat) (hk : k < es.length) (h0 : look (es.take k) x = none) (h : es[k].1 = x) => show lookI (look es x) = (es[k].2 : Int) by rw [look_take_some h0 hk h]; rfl
  have END := Lib.hid fun (h0 : look (es.take len) x = none) => show lookI (look es x) = -1 by rw [← HL.out, List.take_length] at h0; rw [h0]; rfl
  generalize lookI (look es x) = z0 at FIN STOP END ⊢
  go_enter Tryd.func54, Tryd.ntmps54
  go_wp2_with fail
  go_loopg [8] len (fun gh i wr => ∃ k : Nat, k ≤ len ∧ len - k ≤ gh ∧ i = .int .i64 k ∧ wr = w ∧ look (es.take k) x = none)
  case atStart => exact ⟨0, by omega, by omega, rfl, rfl, by simp [look]⟩
  case round =>
    obtain ⟨k, hk, hg, rfl, rfl, h0⟩ := hrel
    have H0 := Lib.hid h0
    clear h0
    rcases Nat.lt_or_ge k len with hlt | hge
    · have hlt' : (k : Int) < (len : Int) := by omega
      have q1 : k < es.length := by rw [HL.out]; exact hlt
      obtain ⟨b, o, rfl, hbb, n0, n1⟩ := HT.out.at_ q1
      by_cases he : es[k].1 = x
      · have hbe : ((ba es[k].1).toList == sx.toList) = true := by rw [he, HX.out]; simp
        have FN := Lib.hid (FIN.out _ (STOP.out k q1 H0.out he) wr (KF.refl _))
        clear FIN STOP END
        generalize ba es[k].1 = sy at *
        generalize (es[k].2 : Int) = zy at *
        go_wp2_with fail
        go_ret
        exact FN.out
      · have hbe : ((ba es[k].1).toList == sx.toList) = false := by
          rw [← HX.out, Lib.toList_data, Lib.toList_data]
          exact beq_eq_false_iff_ne.2 he
        have HN := Lib.hid (look_take_none H0.out q1 he)
        generalize ba es[k].1 = sy at *
        go_wp2_with fail
        go_roundg (len - (k + 1))
        case measure => omega
        case rel => exact ⟨k + 1, by omega, by omega, by go_num, rfl, HN.out⟩
    · obtain rfl : k = len := by omega
      have hlt' : ¬ (k : Int) < (k : Int) := by omega
      have FN := Lib.hid (FIN.out _ (END.out H0.out) wr (KF.refl _))
      go_wp2_with fail
      go_ret
      exact FN.out
end Go.Proofs.YtlkiaghpdjbfeaaDoor
