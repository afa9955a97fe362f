/-
  A device as it lies in memory; WALKS of New, Free, Sync, Wipe, pick, crashed, bytes.Clone, slices.Clone.
-/
import Derived.Test.YtncenfgnhamdbaaChecked
import Derived.Test.YtncenfgnhamdbaaRowS
import Derived.Test.YtncenfgnhamdbaaDevMath
import Derived.BigQuiet
import Derived.Handy
import Derived.Deep.LoopGhost
import Derived.Deep.QuietTactic
import Derived.Deep.RegionWith
import Derived.Deep.CutRange
import Derived.Deep.DeepCutAuto
namespace Go.Proofs.Ytncenfgnhamdbaa
open Go.RowKit

theorem bytesT : U8 Try.prog 31 5 := ⟨Try.underlying31, info_parts (by kernel_rfl)⟩
theorem ctPage : Ct Try.prog 43 52 2 32 :=
  ⟨Try.underlying43, (Try.prog.info? 52).get (by kernel_rfl), .agg #[.int .u8 0, .slice none 0 0], by kernel_rfl, by kernel_rfl, by kernel_rfl, by kernel_rfl, by kernel_rfl⟩
theorem ctRow : Ct Try.prog 39 31 1 24 :=
  ⟨Try.underlying39, (Try.prog.info? 31).get (by kernel_rfl), .slice none 0 0, by kernel_rfl, by kernel_rfl, by kernel_rfl, by kernel_rfl, by kernel_rfl⟩
theorem ret_int {k : IntKind} {a b : Int} (h : a = b) : Ending.returned (.int k a) = .returned (.int k b) := by rw [h]

/-- A page's cells. -/
structure PV where
  st : Nat
  A : Option Addr
  n : Nat
  c : Nat
def PV.e0 (q : PV) : Value := .int .u8 (q.st : Int)
def PV.e1 (q : PV) : Value := .slice q.A q.n q.c
abbrev encP : PV → List Value := fun q => [q.e0, q.e1]
theorem encP_len (q : PV) : (encP q).length = 2 := rfl
theorem encP_one (q : PV) : ∀ u ∈ encP q, u.oneCell' = true := by
  intro u hu
  simp only [encP, List.mem_cons, List.not_mem_nil, or_false] at hu
  rcases hu with rfl | rfl <;> rfl
/-- What the pages hold lies in rows of the device's own. -/
def Held (w : World) (qs : List PV) (ps : List Pg) : Prop := qs.length = ps.length ∧ ∀ (j : Nat) (q : PV) (p : Pg), qs[j]? = some q → ps[j]? = some p → q.st = p.st ∧ Own 5 w q.e1 p.by_
/-- A device lies in block g, its pages' row is v. -/
structure DevAt (w : World) (g : Nat) (v : Value) (qs : List PV) (d : Dv) : Prop where
  dev : w.heap[g]? = some (.cells #[.int .i64 (d.room : Int), v, .int .i64 (d.last : Int)] 45 (0, 0))
  row : OwnC 52 2 encP w v qs
  held : Held w qs d.pages
  good : DGood d
  room : d.room ≤ 65536
  short : ∀ p ∈ d.pages, p.by_.length ≤ 1000
/-- The blocks that a device lies in. -/
def DFoot (g : Nat) (v : Value) (qs : List PV) (k : Nat) : Prop := k = g ∨ v.ownBlock = some k ∨ ∃ q ∈ qs, q.e1.ownBlock = some k
section
variable {w w' : World} {g : Nat} {v : Value} {qs : List PV} {d : Dv}
theorem DevAt.lt (h : DevAt w g v qs d) : g < w.heap.size := lt_of_block h.dev
theorem DevAt.len (h : DevAt w g v qs d) : qs.length = d.pages.length := h.held.1
theorem DevAt.foot_lt (h : DevAt w g v qs d) {k : Nat} (hk : DFoot g v qs k) : k < w.heap.size := by
  rcases hk with rfl | hk | ⟨q, hq, hk⟩
  · exact h.lt
  · obtain ⟨cs, e⟩ := h.row.cells_ hk
    exact lt_of_block e
  · obtain ⟨j, hj⟩ := List.mem_iff_getElem?.1 hq
    have hlt : j < d.pages.length := by
      rw [← h.len]
      exact (List.getElem?_eq_some_iff.1 hj).1
    exact (h.held.2 j q _ hj (List.getElem?_eq_getElem hlt)).2.lt k hk
theorem Held.kept {S : Nat → Prop} {ps : List Pg} (h : Held w qs ps) (k : Keep S w w') (hs : ∀ q ∈ qs, ∀ i, q.e1.ownBlock = some i → ¬ S i) : Held w' qs ps :=
  ⟨h.1, fun j q p hq hp => ⟨(h.2 j q p hq hp).1, (h.2 j q p hq hp).2.kept k (hs q (List.mem_of_getElem? hq))⟩⟩
theorem DevAt.kept {S : Nat → Prop} (h : DevAt w g v qs d) (k : Keep S w w') (hs : ∀ i, DFoot g v qs i → ¬ S i) : DevAt w' g v qs d :=
  ⟨(k.block g h.lt (hs g (.inl rfl))).trans h.dev, h.row.kept k (fun i hi => hs i (.inr (.inl hi))), h.held.kept k (fun q hq i hi => hs i (.inr (.inr ⟨q, hq, hi⟩))), h.good, h.room, h.short⟩
theorem DevAt.far (h : DevAt w g v qs d) (k : KF w w') : DevAt w' g v qs d := h.kept k (fun _ _ h => h)
theorem DevAt.cells (h : DevAt w g v qs d) : w.cell? ⟨g, 0, none⟩ = some (.int .i64 (d.room : Int)) ∧ w.cell? ⟨g, 1, none⟩ = some v ∧ w.cell? ⟨g, 2, none⟩ = some (.int .i64 (d.last : Int)) := by
  have hb := h.dev
  refine ⟨?_, ?_, ?_⟩ <;> simp [World.cell?, hb]
theorem DevAt.free (h : DevAt w g v qs d) (i : Nat) : w.frozen? ⟨g, i, none⟩ = false := by simp [World.frozen?, h.dev]
theorem DevAt.shape (h : DevAt w g v qs d) : ∃ A c, v = .slice A d.pages.length c ∧ d.pages.length ≤ c ∧ c ≤ maxLen ∧ RdC 2 encP w w.heap.size A qs ∧ (∀ a : Addr, A = some a → v.ownBlock = some a.block) := by
  have := h.row.shape encP_len
  rwa [h.len] at this
theorem DevAt.row_ne (h : DevAt w g v qs d) : v.ownBlock ≠ some g := h.row.ne_ h.dev (by decide)
theorem DevAt.held_g (h : DevAt w g v qs d) {q : PV} (hq : q ∈ qs) : q.e1.ownBlock ≠ some g := by
  obtain ⟨j, hj⟩ := List.mem_iff_getElem?.1 hq
  have hlt : j < d.pages.length := by
    rw [← h.len]
    exact (List.getElem?_eq_some_iff.1 hj).1
  exact (h.held.2 j q _ hj (List.getElem?_eq_getElem hlt)).2.ne_ h.dev (by decide)
theorem DevAt.held_row (h : DevAt w g v qs d) {q : PV} (hq : q ∈ qs) {i : Nat} (hi : q.e1.ownBlock = some i) : v.ownBlock ≠ some i := fun e => by
  obtain ⟨j, hj⟩ := List.mem_iff_getElem?.1 hq
  have hlt : j < d.pages.length := by
    rw [← h.len]
    exact (List.getElem?_eq_some_iff.1 hj).1
  obtain ⟨cs, e'⟩ := h.row.cells_ e
  exact (h.held.2 j q _ hj (List.getElem?_eq_getElem hlt)).2.ne_ e' (by decide) hi
/-- What a call on a device touches: the device and its row. -/
abbrev DS (g : Nat) (v : Value) : Nat → Prop := fun k => k = g ∨ v.ownBlock = some k
theorem DevAt.held_S (h : DevAt w g v qs d) : ∀ q ∈ qs, ∀ i, q.e1.ownBlock = some i → ¬ DS g v i := by
  rintro q hq i hi (rfl | e)
  · exact h.held_g hq hi
  · exact h.held_row hq hi e
end
/-- The device that a call leaves. -/
structure DLeft (w : World) (g : Nat) (v : Value) (qs : List PV) (d' : Dv) (v' : Value) (qs' : List PV) (w' : World) : Prop where
  dev : DevAt w' g v' qs' d'
  keep : Keep (DS g v) w w'
  foot : ∀ k, DFoot g v' qs' k → DFoot g v qs k ∨ w.heap.size ≤ k
  row : v'.ownBlock = v.ownBlock ∨ ∀ k, v'.ownBlock = some k → w.heap.size ≤ k
def DDid (w : World) (g : Nat) (v : Value) (qs : List PV) (d' : Dv) (r : Value) (e : Ending) (w' : World) : Prop := e = .returned r ∧ ∃ v' qs', DLeft w g v qs d' v' qs' w'
section
variable {w w1 w' : World} {g : Nat} {v v' v1 : Value} {qs qs' qs1 : List PV} {d d' d1 : Dv}
theorem DLeft.refl (h : DevAt w g v qs d) : DLeft w g v qs d v qs w := ⟨h, Keep.refl _ _, fun _ h => .inl h, .inl rfl⟩
theorem DLeft.trans (h : DLeft w g v qs d1 v1 qs1 w1) (k : DLeft w1 g v1 qs1 d' v' qs' w') : DLeft w g v qs d' v' qs' w' := by
  have hs := h.keep.size
  refine ⟨k.dev, h.keep.trans k.keep ?_, fun i hi => ?_, ?_⟩
  · rintro i hi (rfl | e)
    · exact .inl rfl
    · rcases h.row with hr | hr
      · exact .inr (hr ▸ e)
      · have := hr i e
        omega
  · rcases k.foot i hi with h1 | h1
    · exact h.foot i h1
    · exact .inr (by omega)
  · rcases k.row with hr | hr
    · rcases h.row with hr2 | hr2
      · exact .inl (hr.trans hr2)
      · exact .inr fun i hi => hr2 i (hr ▸ hi)
    · exact .inr fun i hi => by
        have := hr i hi
        omega
theorem DLeft.drewN (h : DLeft w g v qs d' v' qs' w') (n : Nat) : DLeft w g v qs d' v' qs' (w'.drewN n) :=
  ⟨h.dev.far ((KF.refl _).drewN n), h.keep.drewN n, h.foot, h.row⟩
theorem DLeft.far (h : DLeft w g v qs d' v' qs' w1) (k : KF w1 w') : DLeft w g v qs d' v' qs' w' :=
  ⟨h.dev.far k, h.keep.trans k (fun _ _ h => h.elim), h.foot, h.row⟩
/-- First new memory alone, then the call. -/
theorem DLeft.behind (k : KF w w1) (h : DLeft w1 g v qs d' v' qs' w') : DLeft w g v qs d' v' qs' w' :=
  ⟨h.dev, Keep.trans (k.mono (S' := DS g v) (fun _ _ h => h.elim)) h.keep (fun _ _ h => h), fun i hi => (h.foot i hi).imp id (fun h => Nat.le_trans k.size h), h.row.imp id (fun h i hi => Nat.le_trans k.size (h i hi))⟩
end

set_option maxRecDepth 100000 in
theorem dnew_no (n : Int) (w : World) (h : n < 1 ∨ 65536 < n) : Calls Try.prog 6 #[.int .i64 n] w fun e w' => e = .returned (.tuple #[.pointer none, .int .i64 2]) ∧ w = w' := by
  by_cases h1 : n < 1
  · clear h
    go_enter Try.func6, Try.ntmps6
    go_wp2
    go_ret2
    exact ⟨rfl, rfl⟩
  · have h2 : 65536 < n := h.resolve_left h1
    clear h
    go_enter Try.func6, Try.ntmps6
    go_wp2
    go_ret2
    exact ⟨rfl, rfl⟩
theorem dnew_yes (n : Nat) (w : World) (h1 : 1 ≤ n) (h2 : n ≤ 65536) : Calls Try.prog 6 #[.int .i64 (n : Int)] w fun e w' => e = .returned (.tuple #[.pointer (some ⟨w.heap.size, 0, none⟩), .int .i64 0]) ∧ DevAt w' w.heap.size (.slice none 0 0) [] ⟨n, [], 0⟩ ∧ KF w w' := by
  have e1 : ¬ (n : Int) < 1 := by omega
  have e2 : ¬ (65536 : Int) < (n : Int) := by omega
  have FIN : Hid (DevAt (w.alloc (.cells #[.int .i64 (n : Int), .slice none 0 0, .int .i64 0] 45)) w.heap.size (.slice none 0 0) [] ⟨n, [], 0⟩ ∧ KF w (w.alloc (.cells #[.int .i64 (n : Int), .slice none 0 0, .int .i64 0] 45))) := Lib.hid
    ⟨⟨heap_alloc_new w _, ⟨by simp, .inl ⟨rfl, rfl⟩⟩, ⟨rfl, fun j q p h => by simp at h⟩, DGood.new n, h2, fun p hp => by simp at hp⟩, (KF.refl w).alloc _⟩
  clear h1 h2
  go_enter Try.func6, Try.ntmps6
  go_wp2
  go_ret2
  exact ⟨rfl, FIN.out⟩
theorem dfree_any {g : Nat} {v : Value} {qs : List PV} {d : Dv} (w : World) (h : DevAt w g v qs d) : Calls Try.prog 7 #[.pointer (some ⟨g, 0, none⟩)] w fun e w' => e = .returned (.int .i64 ((d.room - d.pages.length : Nat) : Int)) ∧ ∃ n, w.drewN n = w' := by
  obtain ⟨A, c, rfl, _⟩ := h.shape
  obtain ⟨c0, c1, c2⟩ := h.cells
  have hr := h.room
  have hl := h.good.room
  have R : Hid (IntKind.i64.wrap ((d.room : Int) - (d.pages.length : Int)) = ((d.room - d.pages.length : Nat) : Int)) := Lib.hid (by rw [IntKind.wrap_i64]; omega)
  clear h
  generalize d.room = r at *
  generalize d.pages.length = l at *
  go_enter Try.func7, Try.ntmps7
  go_wp2_with fail
  go_quiet (fail)
  go_wp2_with fail
  go_ret
  exact ⟨ret_int (by go_num), _, rfl⟩
theorem dsync_any {g : Nat} {v : Value} {qs : List PV} {d : Dv} (w : World) (h : DevAt w g v qs d) : Calls Try.prog 11 #[.pointer (some ⟨g, 0, none⟩)] w (DDid w g v qs d.sync (.tuple #[])) := by
  obtain ⟨A, c, rfl, _⟩ := h.shape
  obtain ⟨c0, c1, c2⟩ := h.cells
  have f2 := h.free 2
  have FIN : Hid (DDid w g (.slice A d.pages.length c) qs d.sync (.tuple #[]) (.returned (.tuple #[])) (w.setCell ⟨g, 2, none⟩ (.int .i64 (d.pages.length : Int)))) := Lib.hid (by
    have k : Keep (DS g (.slice A d.pages.length c)) w (w.setCell ⟨g, 2, none⟩ (.int .i64 (d.pages.length : Int))) := (Keep.refl _ w).setCell (p := ⟨g, 2, none⟩) (.inr (.inl rfl)) _
    have k1 : Keep (fun i => i = g) w (w.setCell ⟨g, 2, none⟩ (.int .i64 (d.pages.length : Int))) := Keep.setCell (S := fun i => i = g) (Keep.refl _ w) (p := ⟨g, 2, none⟩) (.inr rfl) _
    exact ⟨rfl, _, _, ⟨heap_setCell_same w g 2 _ _ _ h.dev, h.row.kept k1 (by rintro i hi rfl; exact h.row_ne hi), h.held.kept k h.held_S, h.good.sync, h.room, h.short⟩, k, fun _ h => .inl h, .inl rfl⟩)
  generalize DDid w g (.slice A d.pages.length c) qs d.sync (.tuple #[]) = Q at *
  clear h
  generalize d.pages.length = l at *
  go_enter Try.func11, Try.ntmps11
  go_wp2_with fail
  go_end0
  exact FIN.out
theorem dwipe_any {g : Nat} {v : Value} {qs : List PV} {d : Dv} (w : World) (h : DevAt w g v qs d) : Calls Try.prog 15 #[.pointer (some ⟨g, 0, none⟩)] w (DDid w g v qs d.wipe (.tuple #[])) := by
  obtain ⟨c0, c1, c2⟩ := h.cells
  have f1 := h.free 1
  have k : Keep (DS g v) w (w.setCell ⟨g, 1, none⟩ (.slice none 0 0)) := (Keep.refl _ w).setCell (p := ⟨g, 1, none⟩) (.inr (.inl rfl)) _
  have h1 : DevAt ((w.setCell ⟨g, 1, none⟩ (.slice none 0 0)).setCell ⟨g, 2, none⟩ (.int .i64 0)) g (.slice none 0 0) [] d.wipe :=
    ⟨heap_setCell_same _ g 2 _ _ _ (heap_setCell_same w g 1 _ _ _ h.dev), ⟨by simp, .inl ⟨rfl, rfl⟩⟩, ⟨rfl, fun j q p hq => by simp at hq⟩, h.good.wipe, h.room, fun p hp => by simp [Dv.wipe] at hp⟩
  have k2 : Keep (DS g v) w ((w.setCell ⟨g, 1, none⟩ (.slice none 0 0)).setCell ⟨g, 2, none⟩ (.int .i64 0)) := k.setCell (p := ⟨g, 2, none⟩) (.inr (.inl rfl)) _
  have FIN : Hid (DDid w g v qs d.wipe (.tuple #[]) (.returned (.tuple #[])) ((w.setCell ⟨g, 1, none⟩ (.slice none 0 0)).setCell ⟨g, 2, none⟩ (.int .i64 0))) := Lib.hid
    ⟨rfl, _, _, h1, k2, fun i hi => by
      rcases hi with rfl | hi | ⟨q, hq, _⟩
      · exact .inl (.inl rfl)
      · simp [Value.ownBlock] at hi
      · simp at hq, .inr fun i hi => by simp [Value.ownBlock] at hi⟩
  have hb := heap_setCell_same w g 1 _ _ (.slice none 0 0) h.dev
  have CS : Hid (Calls Try.prog 11 #[.pointer (some ⟨g, 0, none⟩)] (w.setCell ⟨g, 1, none⟩ (.slice none 0 0)) fun e w' => e = .returned (.tuple #[]) ∧ w' = (w.setCell ⟨g, 1, none⟩ (.slice none 0 0)).setCell ⟨g, 2, none⟩ (.int .i64 0)) := Lib.hid (by
    have m1 : (w.setCell ⟨g, 1, none⟩ (.slice none 0 0)).cell? ⟨g, 1, none⟩ = some (.slice none 0 0) := by simp [World.cell?, hb]
    have m2 : (w.setCell ⟨g, 1, none⟩ (.slice none 0 0)).frozen? ⟨g, 2, none⟩ = false := by simp [World.frozen?, hb]
    have m3 : ∃ z, (w.setCell ⟨g, 1, none⟩ (.slice none 0 0)).cell? ⟨g, 2, none⟩ = some z := ⟨_, by simp [World.cell?, hb]; rfl⟩
    obtain ⟨z, m3⟩ := m3
    clear FIN h1 k2 k hb h f1 c0 c1 c2
    generalize w.setCell ⟨g, 1, none⟩ (.slice none 0 0) = w1 at *
    go_enter Try.func11, Try.ntmps11
    go_wp2_with fail
    go_end0
    exact ⟨rfl, rfl⟩)
  generalize DDid w g v qs d.wipe (.tuple #[]) = Q at *
  clear h h1 k2 k hb
  go_enter Try.func15, Try.ntmps15
  go_wp2_with fail
  refine CS.out.mono ?_
  rintro e w' ⟨rfl, rfl⟩
  go_wp2_with fail
  go_end0
  exact FIN.out
end Go.Proofs.Ytncenfgnhamdbaa
