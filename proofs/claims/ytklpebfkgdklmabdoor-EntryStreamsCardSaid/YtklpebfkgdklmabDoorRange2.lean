/-
  A loop over a function whose rounds and whose iterator both change memory, as in XRange; here the assignment to the loop's variables may lay new blocks (a variable that lies in a box of its own). It speaks of no program.
-/
import Derived.Test.YtklpebfkgdklmabDoorRange
namespace Go.Proofs.YtklpebfkgdklmabDoor
open Go.RowKit

/-- One round: the body is walked to its end, and yield says 'go on'. -/
theorem round_law2 {F : Fence} {m : Nat} {P : Program} {α : Type} {fn : FuncId} (hfn : F.fn fn) {r : Loop} {l d B : Nat} (hr : r.fn = fn) (hrs : r.state = .ready) (hrp : r.pending = none) (hl : B ≤ l) (hd : B ≤ d) (hne : d ≠ l)
    {encs : Array Value} (hps : encs.size = r.params.size) {S T : World → Prop} (hT : Stands B T) {Ax : Act → World → Prop} (hAx : ∀ a', Stands B (Ax a'))
    (hassign : ∀ (W : World) (K : Act → World → Prop), S W → (∀ a' W', Ax a' W' → KeepsFrom B W W' → K a' W') → r.assign.wpIn (F.inRound l) m P (Exit.then K (fun _ _ _ => False)) { tmps := (r.params.zip encs).foldl (fun t (p, v) => t.setIfInBounds p v) r.tmps, defers := [] } W)
    (hbody : ∀ a' W, Ax a' W → r.body.wpIn (F.inRound l) m P (fun e _ Y => e = .normal ∧ KeepsFrom B W Y ∧ T Y) a' W)
    {W : World} (hw : S W) (hb : Book r l d W) : YieldAt F m P l encs W fun e Y => e = .returned (.bool true) ∧ T Y ∧ Book r l d Y := by
  have hy := run_yield (P := P) (args := encs) hb.loop hps
  rw [hr] at hy
  refine ⟨fn, _, _, _, hy, roundIn_of_wpIn hfn (hassign W _ hw fun a' W1 hx hk1 => ?_)⟩
  have hb1 := hb.kept hl hd hk1
  refine ⟨_, run_beginRound hb1.loop hrs, ?_⟩
  have b1 : Book { r with state := .busy } l d (W1.putObj l (.loop { r with state := .busy })) := hb1.over hne
  refine wpIn_mono (hbody a' _ (hAx a' _ _ _ _ hl hb1.loop rfl hx)) ?_
  rintro e a3 Y ⟨rfl, hk, ht⟩
  have b2 := b1.kept hl hd hk
  have he := run_endRound (P := P) none b2.loop
  have er : { ({ r with state := LoopState.busy } : Loop) with state := (if (none : Option Code).isNone = true then LoopState.ready else .done), pending := (none : Option Code) } = r := by
    cases r
    simp only at hrs hrp
    subst hrs hrp
    rfl
  rw [er] at he
  exact ⟨_, _, he, rfl, hT _ _ _ _ hl b2.loop rfl ht, b2.over hne⟩

theorem range_law2 {F : Fence} {n : Nat} {P : Program} {α : Type} {g : Operand} {ps : Array Tmp} {assign body : Code} {Q : Exit → Act → World → Prop} {a : Act} {w : World}
    (hro : F.round = none) (h1 : 1 ≤ n) {gf : Nat} {lb : Array Value} (hg : a.eval g = .func (.func gf) #[] lb) (hF : F.fn gf) (eg : ∀ args w, (callFunc gf args).run P w = .ok (.enter gf args) w)
    {encs : α → Array Value} (hps : ∀ x, (encs x).size = ps.size) (I : List α → World → Prop) (M : List α → α → World → Prop) (D : List α → World → Prop)
    (hI : ∀ pre, Stands w.heap.size (I pre)) (hD : ∀ xs, Stands w.heap.size (D xs)) (h0 : ∀ o o', I [] ((w.alloc o).alloc o')) (Ax : List α → α → Act → World → Prop) (hAx : ∀ pre x a', Stands w.heap.size (Ax pre x a'))
    (hassign : ∀ (l : Nat) (pre : List α) (x : α) (W : World) (K : Act → World → Prop), M pre x W → (∀ a' W', Ax pre x a' W' → KeepsFrom w.heap.size W W' → K a' W') → assign.wpIn (F.inRound l) (n - 1 - 1) P (Exit.then K (fun _ _ _ => False)) { tmps := (ps.zip (encs x)).foldl (fun t (p, v) => t.setIfInBounds p v) a.tmps, defers := [] } W)
    (hbody : ∀ (l : Nat) (pre : List α) (x : α) (a' : Act) (W : World), Ax pre x a' W → body.wpIn (F.inRound l) (n - 1 - 1) P (fun e _ Y => e = .normal ∧ KeepsFrom w.heap.size W Y ∧ I (pre ++ [x]) Y) a' W)
    (hiter : ∀ (l : Nat) (W : World) (BK : World → Prop), (∀ X Y, BK X → KeepsFrom w.heap.size X Y → BK Y) → (∀ pre x X, M pre x X → BK X → YieldAt F (n - 1 - 1) P l (encs x) X fun e Y => e = .returned (.bool true) ∧ I (pre ++ [x]) Y ∧ BK Y) →
      I [] W → BK W → CallsIn F (n - 1) P gf (#[.func (.yield l) #[] #[]] ++ lb) W fun e Y => (∃ v, e = .returned v) ∧ BK Y ∧ ∃ xs, D xs Y)
    (hdone : ∀ (d : Nat) (xs : List α) (X : World), w.heap.size ≤ d → D xs X → X.heap[d]? = some (.deferred (some [])) → Q .normal { a with defers := { target := .collected d, args := #[] } :: a.defers } X) :
    (Code.rangeFunc g ps assign body).wpIn F n P Q a w := by
  refine wpIn_rangeFunc fun fn hfn => ?_
  rw [hro]
  obtain ⟨r, hr⟩ : ∃ r : Loop, r = { state := .ready, pending := none, fn, tmps := a.tmps, params := ps, assign, body, defers := w.heap.size } := ⟨_, rfl⟩
  obtain ⟨V, hV⟩ : ∃ V, (w.alloc (.deferred (some []))).alloc (.loop r) = V := ⟨_, rfl⟩
  have bV : Book r (w.heap.size + 1) w.heap.size V := by
    subst hV
    refine ⟨?_, (Below.heap_alloc _ _ _ (by simp)).trans (World.alloc_heap_new w _)⟩
    have := World.alloc_heap_new (w.alloc (.deferred (some []))) (.loop r)
    rwa [World.size_alloc] at this
  have hen := run_enterLoop_outer (P := P) (w := w) fn a.tmps ps assign body
  rw [← hr, hV] at hen
  refine ⟨w.heap.size + 1, _, V, { target := .fn (.func gf) lb, args := #[.func (.yield (w.heap.size + 1)) #[] #[]] }, V, gf, #[.func (.yield (w.heap.size + 1)) #[] #[]] ++ lb, V, hen, ?_, ?_, ?_, fun _ => h1, ?_⟩
  · simp only [resolve, hg]
    simp [go_sem]
  · intro f' h
    simp [Target.leads] at h
    subst h
    exact hF
  · simp [invoke, go_sem, eg]
  · refine (hiter (w.heap.size + 1) V (Book r (w.heap.size + 1) w.heap.size) (fun X Y h k => h.kept (by omega) (Nat.le_refl _) k) (fun pre x X hm hb => ?_) (hV ▸ h0 _ _) bV).mono ?_
    · refine round_law2 (α := α) hfn (by rw [hr]) (by rw [hr]) (by rw [hr]) (B := w.heap.size) (by omega) (Nat.le_refl _) (by omega) (by rw [hr]; exact hps x) (hI _) (hAx pre x) ?_ ?_ hm hb
      · intro W K hW hK
        rw [hr]
        exact hassign _ pre x W K hW hK
      · intro a' W hW
        rw [hr]
        exact hbody _ pre x a' W hW
    · rintro e Y ⟨⟨v, rfl⟩, hb, xs, hd⟩
      have he := run_endLoop (P := P) hb.loop (by rw [hr]; simp)
      refine ⟨_, _, he, ?_⟩
      have hp : r.pending = none := by rw [hr]
      rw [hp]
      exact hdone _ xs _ (Nat.le_refl _) (hD xs _ _ _ _ (by omega) hb.loop rfl hd) ((World.putObj_heap_other (by omega)).trans hb.rest)
end Go.Proofs.YtklpebfkgdklmabDoor
