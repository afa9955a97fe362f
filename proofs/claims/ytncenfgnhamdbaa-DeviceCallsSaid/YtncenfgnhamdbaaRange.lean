/-
  A loop over a function whose rounds and whose iterator both change memory: the caller says what holds ahead of each step (I), what holds when an element has been found and is about to be handed over (M), and what holds at the end (D). It speaks of no program. Only loops whose body is left at its end.
-/
import Derived.RangeFuncWrites
import Derived.RangeFuncCalls
import Derived.RangeFuncLeaves
import Derived.RangeFuncRecord
import Derived.RangeFuncSeq
import Derived.Test.YtncenfgnhamdbaaBase
namespace Go.Proofs.Ytncenfgnhamdbaa
open Go.RowKit

/-- What is said of a world stays when a loop's record, or what is deferred, is laid over. -/
def Stands (B : Nat) (S : World → Prop) : Prop := ∀ X k o o', B ≤ k → X.heap[k]? = some o → o.isCells = false → S X → S (X.putObj k o')
/-- What a loop's own steps keep: whatever is no cells. -/
theorem keepsFrom_of {S : Nat → Prop} {X Y : World} (k : Keep S X Y) (hS : ∀ i, S i → ∃ cs t fr, X.heap[i]? = some (.cells cs t fr)) (B : Nat) : KeepsFrom B X Y :=
  ⟨k.size, fun i o _ hi ho => (k.block i (Array.getElem?_eq_some_iff.1 hi).1 (fun h => by
    obtain ⟨cs, t, fr, e⟩ := hS i h
    rw [hi] at e
    injection e with e
    rw [e] at ho
    cases ho)).trans hi⟩
/-- A record laid over. -/
theorem keep_put (X : World) (k : Nat) (o : Obj) : Keep (fun i => i = k) X (X.putObj k o) :=
  ⟨rfl, rfl, rfl, Nat.le_of_eq World.putObj_size.symm, fun i _ hn => World.putObj_heap_other hn⟩
theorem Keep.ofSet {S : Nat → Prop} {X : World} {p : Addr} (h : S p.block) (u : Value) : Keep S X (X.setCell p u) := (Keep.refl S X).setCell (.inr h) u
/-- The record of a loop stands in block l, ready; behind block d nothing is deferred. -/
structure Book (r : Loop) (l d : Nat) (X : World) : Prop where
  loop : X.heap[l]? = some (.loop r)
  rest : X.heap[d]? = some (.deferred (some []))
theorem Book.kept {r : Loop} {l d B : Nat} {X Y : World} (h : Book r l d X) (hl : B ≤ l) (hd : B ≤ d) (k : KeepsFrom B X Y) : Book r l d Y :=
  ⟨k.same _ _ hl h.loop rfl, k.same _ _ hd h.rest rfl⟩
theorem Book.over {r r' : Loop} {l d : Nat} {X : World} (h : Book r l d X) (hne : d ≠ l) : Book r' l d (X.putObj l (.loop r')) :=
  ⟨World.putObj_heap_same (Array.getElem?_eq_some_iff.1 h.loop).1, (World.putObj_heap_other hne).trans h.rest⟩

/-- One round: the body is walked to its end, and yield says 'go on'. -/
theorem round_law {F : Fence} {m : Nat} {P : Program} {α : Type} {fn : FuncId} (hfn : F.fn fn) {r : Loop} {l d B : Nat} (hr : r.fn = fn) (hrs : r.state = .ready) (hrp : r.pending = none) (hl : B ≤ l) (hd : B ≤ d) (hne : d ≠ l)
    {encs : Array Value} (hps : encs.size = r.params.size) {S T : World → Prop} (hS : Stands B S) (hT : Stands B T) {a₁ : Act}
    (hassign : ∀ (W : World) (K : Act → World → Prop), K a₁ W → r.assign.wpIn (F.inRound l) m P (Exit.then K (fun _ _ _ => False)) { tmps := (r.params.zip encs).foldl (fun t (p, v) => t.setIfInBounds p v) r.tmps, defers := [] } W)
    (hbody : ∀ W, S W → r.body.wpIn (F.inRound l) m P (fun e _ Y => e = .normal ∧ KeepsFrom B W Y ∧ T Y) a₁ W)
    {W : World} (hw : S W) (hb : Book r l d W) : YieldAt F m P l encs W fun e Y => e = .returned (.bool true) ∧ T Y ∧ Book r l d Y := by
  have hy := run_yield (P := P) (args := encs) hb.loop hps
  rw [hr] at hy
  refine ⟨fn, _, _, _, hy, roundIn_of_wpIn hfn (hassign W _ ⟨_, run_beginRound hb.loop hrs, ?_⟩)⟩
  have b1 : Book { r with state := .busy } l d (W.putObj l (.loop { r with state := .busy })) := hb.over hne
  refine wpIn_mono (hbody _ (hS _ _ _ _ hl hb.loop rfl hw)) ?_
  rintro e a3 Y ⟨rfl, hk, ht⟩
  have b2 := b1.kept hl hd hk
  have he := run_endRound (P := P) none b2.loop
  have er : { ({ r with state := LoopState.busy } : Loop) with state := (if (none : Option Code).isNone = true then LoopState.ready else .done), pending := (none : Option Code) } = r := by
    cases r
    simp only at hrs hrp
    subst hrs hrp
    rfl
  rw [er] at he
  exact ⟨_, _, he, rfl, hT _ _ _ _ hl b2.loop rfl ht, b2.over hne⟩

theorem range_law {F : Fence} {n : Nat} {P : Program} {α : Type} {g : Operand} {ps : Array Tmp} {assign body : Code} {Q : Exit → Act → World → Prop} {a : Act} {w : World}
    (hro : F.round = none) (h1 : 1 ≤ n) {gf : Nat} {lb : Array Value} (hg : a.eval g = .func (.func gf) #[] lb) (hF : F.fn gf) (eg : ∀ args w, (callFunc gf args).run P w = .ok (.enter gf args) w)
    {encs : α → Array Value} (hps : ∀ x, (encs x).size = ps.size) (I : List α → World → Prop) (M : List α → α → World → Prop) (D : List α → World → Prop)
    (hI : ∀ pre, Stands w.heap.size (I pre)) (hM : ∀ pre x, Stands w.heap.size (M pre x)) (hD : ∀ xs, Stands w.heap.size (D xs)) (h0 : ∀ o o', I [] ((w.alloc o).alloc o')) (a₁ : α → Act)
    (hassign : ∀ (l : Nat) (x : α) (W : World) (K : Act → World → Prop), K (a₁ x) W → assign.wpIn (F.inRound l) (n - 1 - 1) P (Exit.then K (fun _ _ _ => False)) { tmps := (ps.zip (encs x)).foldl (fun t (p, v) => t.setIfInBounds p v) a.tmps, defers := [] } W)
    (hbody : ∀ (l : Nat) (pre : List α) (x : α) (W : World), M pre x W → body.wpIn (F.inRound l) (n - 1 - 1) P (fun e _ Y => e = .normal ∧ KeepsFrom w.heap.size W Y ∧ I (pre ++ [x]) Y) (a₁ x) W)
    (hiter : ∀ (l : Nat) (W : World) (BK : World → Prop), (∀ X Y, BK X → KeepsFrom w.heap.size X Y → BK Y) → (∀ pre x X, M pre x X → BK X → YieldAt F (n - 1 - 1) P l (encs x) X fun e Y => e = .returned (.bool true) ∧ I (pre ++ [x]) Y ∧ BK Y) →
      I [] W → BK W → CallsIn F (n - 1) P gf (#[.func (.yield l) #[] #[]] ++ lb) W fun e Y => (∃ v, e = .returned v) ∧ BK Y ∧ ∃ xs, D xs Y)
    (hdone : ∀ (d : Nat) (xs : List α) (X : World), w.heap.size ≤ d → D xs X → X.heap[d]? = some (.deferred (some [])) → Q .normal { a with defers := { target := .collected d, args := #[] } :: a.defers } X) :
    (Code.rangeFunc g ps assign body).wpIn F n P Q a w := by
  refine wpIn_rangeFunc fun fn hfn => ?_
  rw [hro]
  obtain ⟨r, hr⟩ : ∃ r : Loop, r = { state := .ready, pending := none, fn, tmps := a.tmps, params := ps, assign, body, defers := w.heap.size } := ⟨_, rfl⟩
  obtain ⟨V, hV⟩ : ∃ V, (w.alloc (.deferred (some []))).alloc (.loop r) = V := ⟨_, rfl⟩
  have bV : Book r (w.heap.size + 1) w.heap.size V := by
    subst hV
    refine ⟨?_, (Below.heap_alloc _ _ _ (by simp)).trans (World.alloc_heap_new w _)⟩
    have := World.alloc_heap_new (w.alloc (.deferred (some []))) (.loop r)
    rwa [World.size_alloc] at this
  have hen := run_enterLoop_outer (P := P) (w := w) fn a.tmps ps assign body
  rw [← hr, hV] at hen
  refine ⟨w.heap.size + 1, _, V, { target := .fn (.func gf) lb, args := #[.func (.yield (w.heap.size + 1)) #[] #[]] }, V, gf, #[.func (.yield (w.heap.size + 1)) #[] #[]] ++ lb, V, hen, ?_, ?_, ?_, fun _ => h1, ?_⟩
  · simp only [resolve, hg]
    simp [go_sem]
  · intro f' h
    simp [Target.leads] at h
    subst h
    exact hF
  · simp [invoke, go_sem, eg]
  · refine (hiter (w.heap.size + 1) V (Book r (w.heap.size + 1) w.heap.size) (fun X Y h k => h.kept (by omega) (Nat.le_refl _) k) (fun pre x X hm hb => ?_) (hV ▸ h0 _ _) bV).mono ?_
    · refine round_law (α := α) hfn (by rw [hr]) (by rw [hr]) (by rw [hr]) (B := w.heap.size) (by omega) (Nat.le_refl _) (by omega) (by rw [hr]; exact hps x) (hM pre x) (hI _) (a₁ := a₁ x) ?_ ?_ hm hb
      · intro W K hK
        rw [hr]
        exact hassign _ x W K hK
      · intro W hW
        rw [hr]
        exact hbody _ pre x W hW
    · rintro e Y ⟨⟨v, rfl⟩, hb, xs, hd⟩
      have he := run_endLoop (P := P) hb.loop (by rw [hr]; simp)
      refine ⟨_, _, he, ?_⟩
      have hp : r.pending = none := by rw [hr]
      rw [hp]
      exact hdone _ xs _ (Nat.le_refl _) (hD xs _ _ _ _ (by omega) hb.loop rfl hd) ((World.putObj_heap_other (by omega)).trans hb.rest)
end Go.Proofs.Ytncenfgnhamdbaa
