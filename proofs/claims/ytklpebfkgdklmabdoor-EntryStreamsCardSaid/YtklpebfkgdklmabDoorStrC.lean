/-
  The state of the law on streams while it walks the wanted stream.
-/
import Derived.Test.YtklpebfkgdklmabDoorStrB
namespace Go.Proofs.YtklpebfkgdklmabDoor
open Go.RowKit Go.Maps

structure SK (w : World) (bL bW bq br nb : Nat) (q which at_ : Int) (R : List Int) (vL vW : Value) (k : Nat) (X : World) : Prop where
  lg : X.heap[bL]? = some (.cells #[vL] 38 (0, 0))
  ol : OwnC 26 7 encL X vL (logR R)
  wt : X.heap[bW]? = some (.cells #[vW] 37 (0, 0))
  ow : OwnC 3 1 encI X vW (wantR q R)
  cq : X.heap[bq]? = some (.cells #[.int .i64 which] 3 (0, 0))
  cr : X.heap[br]? = some (.cells #[.bool false] 4 (0, 0))
  n : X.heap[nb]? = some (.cells #[.int .i64 k] 3 (0, 0))
  a : X.heap[nb + 1]? = some (.cells #[.int .i64 at_] 3 (0, 0))
  r : X.heap[nb + 1 + 1]? = some (.cells #[.func (.func 11) #[] #[.pointer (some ⟨bL, 0, none⟩)]] 41 (0, 0))
  keep : KF w X
section
variable {w : World} {bL bW bq br nb : Nat} {q which at_ : Int} {R : List Int} {vL vW : Value} {k : Nat} {X Y : World}
theorem SK.kept {S : Nat → Prop} (h : SK w bL bW bq br nb q which at_ R vL vW k X) (hk : Keep S X Y) (h1 : ¬ S bL) (h2 : ¬ S bW) (h3 : ¬ S bq) (h4 : ¬ S br) (h5 : ¬ S nb) (h6 : ¬ S (nb + 1)) (h7 : ¬ S (nb + 1 + 1)) (h8 : ∀ i, i < w.heap.size → ¬ S i)
    (h9 : ∀ i cs t, X.heap[i]? = some (.cells cs t (0, 0)) → ¬ S i) : SK w bL bW bq br nb q which at_ R vL vW k Y :=
  ⟨(hk.block _ (lt_of_block h.lg) h1).trans h.lg, h.ol.kept hk (fun i hi hs => by obtain ⟨cs, e⟩ := h.ol.cells_ hi; exact h9 i cs _ e hs), (hk.block _ (lt_of_block h.wt) h2).trans h.wt, h.ow.kept hk (fun i hi hs => by obtain ⟨cs, e⟩ := h.ow.cells_ hi; exact h9 i cs _ e hs),
    (hk.block _ (lt_of_block h.cq) h3).trans h.cq, (hk.block _ (lt_of_block h.cr) h4).trans h.cr, (hk.block _ (lt_of_block h.n) h5).trans h.n, (hk.block _ (lt_of_block h.a) h6).trans h.a, (hk.block _ (lt_of_block h.r) h7).trans h.r, Keep.trans h.keep hk (fun i hi hs => h8 i hi hs)⟩
theorem SK.keptF (h : SK w bL bW bq br nb q which at_ R vL vW k X) (hk : KF X Y) : SK w bL bW bq br nb q which at_ R vL vW k Y :=
  h.kept hk (fun h => h) (fun h => h) (fun h => h) (fun h => h) (fun h => h) (fun h => h) (fun h => h) (fun _ _ h => h) (fun _ _ _ _ h => h)
theorem SK.stands {b : Nat} (hb : bL < b ∧ bW < b ∧ bq < b ∧ br < b ∧ nb + 2 < b ∧ w.heap.size ≤ b) (k : Nat) : Stands b (SK w bL bW bq br nb q which at_ R vL vW k) := fun X i o o' hi ho hc h => by
  refine h.kept (keep_put X i o') (by omega) (by omega) (by omega) (by omega) (by omega) (by omega) (by omega) (fun j hj => by omega) (fun j cs t hj hji => ?_)
  subst hji
  rw [ho] at hj
  injection hj with hj
  rw [hj] at hc
  cases hc
/-- One more is counted. -/
theorem SK.step (h : SK w bL bW bq br nb q which at_ R vL vW k X) (hw : w.heap.size ≤ nb) (h1 : bL ≠ nb) (h2 : bW ≠ nb) (h3 : bq ≠ nb) (h4 : br ≠ nb) (hL : vL.ownBlock ≠ some nb) (hW : vW.ownBlock ≠ some nb) : SK w bL bW bq br nb q which at_ R vL vW (k + 1) (X.setCell ⟨nb, 0, none⟩ (.int .i64 ((k : Int) + 1))) := by
  have hk : Keep (fun i => i = nb) X (X.setCell ⟨nb, 0, none⟩ (.int .i64 ((k : Int) + 1))) := Keep.ofSet (S := fun i => i = nb) (p := ⟨nb, 0, none⟩) rfl _
  exact ⟨(hk.block _ (lt_of_block h.lg) h1).trans h.lg, h.ol.kept hk (fun i hi hs => hL (by rw [hi, hs])), (hk.block _ (lt_of_block h.wt) h2).trans h.wt, h.ow.kept hk (fun i hi hs => hW (by rw [hi, hs])),
    (hk.block _ (lt_of_block h.cq) h3).trans h.cq, (hk.block _ (lt_of_block h.cr) h4).trans h.cr, by have := one_setCell (u := .int .i64 ((k : Int) + 1)) h.n; rw [this]; simp, (hk.block _ (lt_of_block h.a) (by omega)).trans h.a, (hk.block _ (lt_of_block h.r) (by omega)).trans h.r, Keep.trans h.keep hk (fun i hi (hs : i = nb) => by omega)⟩
/-- The law's things, once the walk begins. -/
theorem ES.walk {w3 : World} {mb : Nat} {rm : List Int} (h : ES w w3 bL bW mb bq br q which R rm R X) : ∃ vL vW, (vL.ownBlock ≠ some X.heap.size) ∧ (vW.ownBlock ≠ some X.heap.size) ∧
    SK w bL bW bq br X.heap.size q which at_ R vL vW 0 (((X.alloc (.cells #[.int .i64 0] 3)).alloc (.cells #[.int .i64 at_] 3)).alloc (.cells #[.func (.func 11) #[] #[.pointer (some ⟨bL, 0, none⟩)]] 41)) := by
  obtain ⟨vL, e1, e2, _⟩ := h.lg
  obtain ⟨vW, f1, f2, _⟩ := h.wt
  have lt : ∀ {T : TypeId} {K : Nat} {α : Type} {enc : α → List Value} {v : Value} {l : List α}, OwnC T K enc X v l → v.ownBlock ≠ some X.heap.size := fun o hi => by
    obtain ⟨cs, e⟩ := o.cells_ hi
    exact Nat.lt_irrefl _ (Array.getElem?_eq_some_iff.1 e).1
  have k3 : KF X (((X.alloc (.cells #[.int .i64 0] 3)).alloc (.cells #[.int .i64 at_] 3)).alloc (.cells #[.func (.func 11) #[] #[.pointer (some ⟨bL, 0, none⟩)]] 41)) := (((KF.refl X).alloc _).alloc _).alloc _
  refine ⟨vL, vW, lt e2, lt f2, (k3.block _ (lt_of_block e1) (fun h => h)).trans e1, ((e2.alloc _).alloc _).alloc _, (k3.block _ (lt_of_block f1) (fun h => h)).trans f1, ((f2.alloc _).alloc _).alloc _, (k3.block _ (lt_of_block h.cq) (fun h => h)).trans h.cq, (k3.block _ (lt_of_block h.cr) (fun h => h)).trans h.cr, ?_, ?_, ?_, KF.trans h.keep k3⟩
  · rw [Below.heap_alloc _ _ _ (by simp; omega), Below.heap_alloc _ _ _ (by simp)]
    exact World.alloc_heap_new X _
  · rw [Below.heap_alloc _ _ _ (by simp)]
    have := World.alloc_heap_new (X.alloc (.cells #[.int .i64 0] 3)) (.cells #[.int .i64 at_] 3)
    rwa [World.size_alloc] at this
  · have := World.alloc_heap_new ((X.alloc (.cells #[.int .i64 0] 3)).alloc (.cells #[.int .i64 at_] 3)) (.cells #[.func (.func 11) #[] #[.pointer (some ⟨bL, 0, none⟩)]] 41)
    rwa [World.size_alloc, World.size_alloc] at this
end
theorem wantR_walk {R : List Int} {q : Int} {pre : List Stp} {p : Stp} (h : ∃ rest, walkL (rdR R) (prevR R q) = told pre ++ (p.1, p.2.1) :: rest) : (wantR q R)[pre.length]? = some p.1 ∧ p.2.1.stream = q := by
  obtain ⟨rest, h⟩ := h
  obtain ⟨h1, h2⟩ := walk_want R q R [] rfl
  rw [h] at h1 h2
  refine ⟨?_, h2 (p.1, p.2.1) (by simp)⟩
  rw [← h1, List.map_append, List.getElem?_append_right (by simp [told_length])]
  simp [told_length]
theorem wantR_done {R : List Int} {q : Int} {xs : List Stp} (h : walkL (rdR R) (prevR R q) = told xs) : (wantR q R).length = xs.length := by
  rw [← (walk_want R q R [] rfl).1, h, List.length_map, told_length]
end Go.Proofs.YtklpebfkgdklmabDoor
