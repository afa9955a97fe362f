/-
  The document's device as it lies in memory; WALKS of its New, Next, Append, Sync, Wipe.
-/
import Derived.Test.YtncenfgnhamdbaaDevRefMath
import Derived.Test.YtncenfgnhamdbaaDevOps
import Derived.Test.YtncenfgnhamdbaaDevIter
import Derived.Test.YtncenfgnhamdbaaDevCrash
namespace Go.Proofs.Ytncenfgnhamdbaa
open Go.RowKit

/-- A page's cells. -/
structure QV where
  st : Nat
  A : Option Addr
  n : Nat
  c : Nat
  lasts : Bool
def QV.e0 (q : QV) : Value := .int .i64 (q.st : Int)
def QV.e1 (q : QV) : Value := .slice q.A q.n q.c
def QV.e2 (q : QV) : Value := .bool q.lasts
abbrev encQ : QV → List Value := fun q => [q.e0, q.e1, q.e2]
theorem encQ_len (q : QV) : (encQ q).length = 3 := rfl
def qZero : QV := ⟨0, none, 0, 0, false⟩
def RHeld (w : World) (qs : List QV) (R : List RPg) : Prop := qs.length = R.length ∧ ∀ (j : Nat) (q : QV) (r : RPg), qs[j]? = some q → R[j]? = some r → q.st = r.st ∧ q.lasts = r.lasts ∧ Own 5 w q.e1 r.by_
structure RAt (w : World) (g : Nat) (v : Value) (qs : List QV) (R : List RPg) : Prop where
  dev : w.heap[g]? = some (.cells #[v] 48 (0, 0))
  row : OwnC 54 3 encQ w v qs
  held : RHeld w qs R
  few : R.length ≤ 200
  short : ∀ r ∈ R, r.by_.length ≤ 1000
def RFoot (g : Nat) (v : Value) (qs : List QV) (k : Nat) : Prop := k = g ∨ v.ownBlock = some k ∨ ∃ q ∈ qs, q.e1.ownBlock = some k
abbrev RS (g : Nat) (v : Value) : Nat → Prop := fun k => k = g ∨ v.ownBlock = some k
section
variable {w w' : World} {g : Nat} {v : Value} {qs : List QV} {R : List RPg}
theorem RAt.lt (h : RAt w g v qs R) : g < w.heap.size := lt_of_block h.dev
theorem RAt.own (h : RAt w g v qs R) {q : QV} (hq : q ∈ qs) : ∃ l, Own 5 w q.e1 l := by
  obtain ⟨j, hj⟩ := List.mem_iff_getElem?.1 hq
  have hlt : j < R.length := by rw [← h.held.1]; exact (List.getElem?_eq_some_iff.1 hj).1
  exact ⟨_, (h.held.2 j q _ hj (List.getElem?_eq_getElem hlt)).2.2⟩
theorem RAt.foot_lt (h : RAt w g v qs R) {k : Nat} (hk : RFoot g v qs k) : k < w.heap.size := by
  rcases hk with rfl | hk | ⟨q, hq, hk⟩
  · exact h.lt
  · obtain ⟨cs, e⟩ := h.row.cells_ hk
    exact lt_of_block e
  · obtain ⟨l, ho⟩ := h.own hq
    exact ho.lt k hk
theorem RHeld.kept {S : Nat → Prop} (h : RHeld w qs R) (k : Keep S w w') (hs : ∀ q ∈ qs, ∀ i, q.e1.ownBlock = some i → ¬ S i) : RHeld w' qs R :=
  ⟨h.1, fun j q r hq hr => ⟨(h.2 j q r hq hr).1, (h.2 j q r hq hr).2.1, (h.2 j q r hq hr).2.2.kept k (hs q (List.mem_of_getElem? hq))⟩⟩
theorem RAt.kept {S : Nat → Prop} (h : RAt w g v qs R) (k : Keep S w w') (hs : ∀ i, RFoot g v qs i → ¬ S i) : RAt w' g v qs R :=
  ⟨(k.block g h.lt (hs g (.inl rfl))).trans h.dev, h.row.kept k (fun i hi => hs i (.inr (.inl hi))), h.held.kept k (fun q hq i hi => hs i (.inr (.inr ⟨q, hq, hi⟩))), h.few, h.short⟩
theorem RAt.far (h : RAt w g v qs R) (k : KF w w') : RAt w' g v qs R := h.kept k (fun _ _ h => h)
theorem RAt.cell (h : RAt w g v qs R) : w.cell? ⟨g, 0, none⟩ = some v := cell_of_one h.dev
theorem RAt.free (h : RAt w g v qs R) : w.frozen? ⟨g, 0, none⟩ = false := free_of_one h.dev
theorem RAt.shape (h : RAt w g v qs R) : ∃ A c, v = .slice A R.length c ∧ R.length ≤ c ∧ c ≤ maxLen ∧ (R.length ≠ 0 → ∃ gp, A = some ⟨gp, 0, none⟩) := by
  obtain ⟨A, c, e, h1, h2, _, _⟩ := h.row.shape encQ_len
  rw [h.held.1] at e h1
  refine ⟨A, c, e, h1, h2, fun hne => ?_⟩
  rcases h.row.2 with ⟨_, h0⟩ | ⟨gp, cap, cur, e2, _⟩
  · rw [h.held.1] at h0; exact absurd h0 hne
  · rw [e2] at e
    injection e with e _ _
    exact ⟨gp, e.symm⟩
theorem RAt.row_ne (h : RAt w g v qs R) : v.ownBlock ≠ some g := h.row.ne_ h.dev (by decide)
theorem RAt.held_S (h : RAt w g v qs R) : ∀ q ∈ qs, ∀ i, q.e1.ownBlock = some i → ¬ RS g v i := by
  intro q hq i hi hs
  obtain ⟨l, ho⟩ := h.own hq
  rcases hs with rfl | e
  · exact ho.ne_ h.dev (by decide) hi
  · obtain ⟨cs, e'⟩ := h.row.cells_ e
    exact ho.ne_ e' (by decide) hi
/-- The cells of the j-th page. -/
theorem RAt.at_ {gp n c : Nat} (h : RAt w g (.slice (some ⟨gp, 0, none⟩) n c) qs R) {j : Nat} {r : RPg} (hr : R[j]? = some r) : ∃ q, qs[j]? = some q ∧ q.st = r.st ∧ q.lasts = r.lasts ∧ Own 5 w (.slice q.A q.n q.c) r.by_ ∧
    w.cell? ⟨gp, j * 3, none⟩ = some (.int .i64 (q.st : Int)) ∧ w.cell? ⟨gp, j * 3 + 1, none⟩ = some (.slice q.A q.n q.c) ∧ w.cell? ⟨gp, j * 3 + 2, none⟩ = some (.bool q.lasts) := by
  have hlt : j < qs.length := by rw [h.held.1]; exact (List.getElem?_eq_some_iff.1 hr).1
  obtain ⟨q, hq⟩ : ∃ q, qs[j]? = some q := ⟨_, List.getElem?_eq_getElem hlt⟩
  obtain ⟨h1, h2, h3⟩ := h.held.2 j q r hq hr
  obtain ⟨_, _, e, _, _, hR, _⟩ := h.row.shape encQ_len
  injection e with e _ _
  subst e
  obtain ⟨b, o, e, _, hcell⟩ := hR j q hq
  injection e with e
  injection e with e1 e2 _
  subst e1 e2
  have n0 := hcell 0 _ rfl
  have n1 := hcell 1 _ rfl
  have n2 := hcell 2 _ rfl
  rw [Nat.zero_add] at n0 n1 n2
  exact ⟨q, hq, h1, h2, h3, n0, n1, n2⟩
end
/-- What a call on the document's device leaves. -/
structure RLeft (w : World) (g : Nat) (v : Value) (qs : List QV) (R' : List RPg) (v' : Value) (qs' : List QV) (w' : World) : Prop where
  dev : RAt w' g v' qs' R'
  keep : Keep (RS g v) w w'
  foot : ∀ k, RFoot g v' qs' k → RFoot g v qs k ∨ w.heap.size ≤ k
theorem RLeft.refl {w : World} {g : Nat} {v : Value} {qs : List QV} {R : List RPg} (h : RAt w g v qs R) : RLeft w g v qs R v qs w := ⟨h, Keep.refl _ _, fun _ h => .inl h⟩
theorem RLeft.far {w w1 w' : World} {g : Nat} {v v' : Value} {qs qs' : List QV} {R' : List RPg} (h : RLeft w g v qs R' v' qs' w1) (k : KF w1 w') : RLeft w g v qs R' v' qs' w' :=
  ⟨h.dev.far k, h.keep.trans k (fun _ _ h => h.elim), h.foot⟩
theorem made_rows (n : Nat) : (madeCells #[.int .i64 0, .slice none 0 0, .bool false] (n * 3)).toList = (List.replicate n qZero).flatMap encQ := by
  apply List.ext_getElem?
  intro i
  rcases Nat.lt_or_ge i (n * 3) with h | h
  · have hq : i / 3 < n := by omega
    have hm : i % 3 < 3 := Nat.mod_lt _ (by decide)
    have h1 := flat_get (K := 3) (enc := encQ) encQ_len hm (xs := List.replicate n qZero) (j := i / 3) (x := qZero) (by rw [List.getElem?_replicate, if_pos hq])
    have e : i / 3 * 3 + i % 3 = i := by omega
    rw [e] at h1
    rw [h1]
    have hc : i % 3 = 0 ∨ i % 3 = 1 ∨ i % 3 = 2 := by omega
    simp only [madeCells, Array.toList_map, Array.toList_range, List.getElem?_map, List.getElem?_range, h, Option.map_some]
    rcases hc with hc | hc | hc <;> simp [hc, qZero, QV.e0, QV.e1, QV.e2]
  · rw [List.getElem?_eq_none (by simp [size_madeCells]; omega), List.getElem?_eq_none (by rw [flat_length encQ_len, List.length_replicate]; exact h)]
theorem run_makeR (n : Nat) (hn : n ≤ 200) (w : World) : (Instr.makeSlice 46 (.int .i64 (n : Int)) (.int .i64 (n : Int))).run Try.prog w = .ok (.slice (some ⟨w.heap.size, 0, none⟩) n n) (w.alloc (.cells (madeCells #[.int .i64 0, .slice none 0 0, .bool false] (n * 3)) 54)) := by
  have hi : Try.prog.info? 54 = some ((Try.prog.info? 54).get (by kernel_rfl)) := by kernel_rfl
  have hb : ((Try.prog.info? 54).get (by kernel_rfl)).bytes = 40 := by kernel_rfl
  have hs : ((Try.prog.info? 54).get (by kernel_rfl)).size = 3 := by kernel_rfl
  have h := run_make (P := Try.prog) w 46 54 _ (.agg #[.int .i64 0, .slice none 0 0, .bool false]) Try.underlying46 hi (by kernel_rfl) .i64 .i64 (n : Int) (n : Int) (by omega) (Int.le_refl _) (by rw [hb]; omega) (by omega)
  rw [hs, Int.toNat_natCast] at h
  exact h
theorem RHeld.zero (w : World) (n : Nat) : RHeld w (List.replicate n qZero) (List.replicate n rZero) := ⟨by simp, fun j q r hq hr => by
  rw [List.getElem?_replicate] at hq hr
  split at hq
  · next hj =>
    rw [if_pos hj] at hr
    injection hq with hq
    injection hr with hr
    subst hq hr
    exact ⟨rfl, rfl, Own.nil _ _⟩
  · cases hq⟩
theorem OwnC.made (w : World) (n : Nat) (hn : n ≤ 200) : OwnC 54 3 encQ (w.alloc (.cells (madeCells #[.int .i64 0, .slice none 0 0, .bool false] (n * 3)) 54)) (.slice (some ⟨w.heap.size, 0, none⟩) n n) (List.replicate n qZero) := by
  refine ⟨by rw [flat_length encQ_len], .inr ⟨w.heap.size, n, _, by rw [List.length_replicate], Nat.zero_le _, heap_alloc_new w _, by rw [List.length_replicate]; exact Nat.le_refl _, by simp only [maxLen]; omega, size_madeCells _ _, ?_⟩⟩
  rw [List.length_replicate, made_rows]
  exact List.take_of_length_le (by rw [flat_length encQ_len, List.length_replicate]; exact Nat.le_refl _)
theorem rnew8 (n : Nat) (hn : n ≤ 200) (w : World) : Calls Try.prog 8 #[.int .i64 (n : Int)] w fun e w' => e = .returned (.pointer (some ⟨w.heap.size + 1, 0, none⟩)) ∧ RAt w' (w.heap.size + 1) (.slice (some ⟨w.heap.size, 0, none⟩) n n) (List.replicate n qZero) (List.replicate n rZero) ∧ KF w w' := by
  have hmk := run_makeR n hn w
  have FIN : Hid (RAt ((w.alloc (.cells (madeCells #[.int .i64 0, .slice none 0 0, .bool false] (n * 3)) 54)).alloc (.cells #[.slice (some ⟨w.heap.size, 0, none⟩) n n] 48)) (w.heap.size + 1) (.slice (some ⟨w.heap.size, 0, none⟩) n n) (List.replicate n qZero) (List.replicate n rZero) ∧ KF w ((w.alloc (.cells (madeCells #[.int .i64 0, .slice none 0 0, .bool false] (n * 3)) 54)).alloc (.cells #[.slice (some ⟨w.heap.size, 0, none⟩) n n] 48))) := Lib.hid (by
    refine ⟨⟨?_, (OwnC.made w n hn).alloc _, RHeld.zero _ n, by simpa using hn, fun r hr => ?_⟩, ((KF.refl w).alloc _).alloc _⟩
    · have := World.alloc_heap_new (w.alloc (.cells (madeCells #[.int .i64 0, .slice none 0 0, .bool false] (n * 3)) 54)) (.cells #[.slice (some ⟨w.heap.size, 0, none⟩) n n] 48)
      rwa [World.size_alloc] at this
    · rw [List.mem_replicate] at hr
      rw [hr.2]
      exact Nat.zero_le _)
  generalize madeCells #[.int .i64 0, .slice none 0 0, .bool false] (n * 3) = CS at *
  go_enter Try.func8, Try.ntmps8
  go_wp2_with fail
  go_ret
  exact ⟨rfl, FIN.out⟩
set_option maxHeartbeats 1000000 in
theorem rnext8 {g : Nat} {v : Value} {qs : List QV} {R : List RPg} (w : World) (h : RAt w g v qs R) :
    Calls Try.prog 21 #[.pointer (some ⟨g, 0, none⟩)] w fun e w' => e = .returned (.int .i64 ((endR R R.length : Nat) : Int)) ∧ w = w' := by
  obtain ⟨A, c, rfl, hc1, hc2, hA⟩ := h.shape
  have c0 := h.cell
  have hfew := h.few
  have HR := Lib.hid fun k (hk : k < R.length) => show ∃ (gp p : Nat), A = some ⟨gp, 0, none⟩ ∧ w.cell? ⟨gp, k * 3, none⟩ = some (.int .i64 (p : Int)) ∧ endR R (k + 1) = if p = 0 then endR R k else k + 1 from by
    obtain ⟨gp, rfl⟩ := hA (by omega)
    obtain ⟨q, hq, h1, _, _, n0, _, _⟩ := h.at_ (List.getElem?_eq_getElem hk)
    refine ⟨gp, q.st, rfl, n0, ?_⟩
    rw [endR, List.getElem?_eq_getElem hk, Option.map_some, h1]
    by_cases hz : (R[k]'hk).st = 0
    · rw [if_pos (by rw [hz]), if_pos hz]
    · rw [if_neg (fun e => hz (by injection e)), if_neg hz]
  clear h hA
  generalize hl : R.length = l at *
  go_enter Try.func21, Try.ntmps21
  go_wp2_with fail
  go_loopg [3] l (fun gh i wr => ∃ k : Nat, k ≤ l ∧ k ≤ gh ∧ i = .int .i64 k ∧ Hid (endR R l = endR R k) ∧ wr = w)
  case atStart => exact ⟨l, Nat.le_refl _, Nat.le_refl _, rfl, Lib.hid rfl, rfl⟩
  case round =>
    obtain ⟨k, hk, hg, rfl, HK, rfl⟩ := hrel
    rcases k with _ | k
    · go_wp2_with fail
      go_ret
      exact ⟨ret_int (by rw [HK.out]; rfl), rfl⟩
    · obtain ⟨gp, p, rfl, hcell, hend⟩ := HR.out k (by omega)
      have hlt' : (0 : Int) < ((k + 1 : Nat) : Int) := by omega
      have hw : IntKind.i64.wrap (((k + 1 : Nat) : Int) - 1) = (k : Int) := by rw [IntKind.wrap_i64]; omega
      by_cases hp : p = 0
      · subst hp
        rw [if_pos rfl] at hend
        have HK2 : Hid (endR R l = endR R k) := Lib.hid (HK.out.trans hend)
        clear hend HK
        go_wp2_with fail
        go_roundg k
        case measure => omega
        case rel => exact ⟨k, by omega, by omega, by go_num, HK2, rfl⟩
      · rw [if_neg hp] at hend
        have hpb : ((p : Int) == 0) = false := by simp; omega
        have HF2 := Lib.hid (HK.out.trans hend)
        clear hend HK
        go_wp2_with fail
        go_ret
        exact ⟨ret_int (by rw [HF2.out]), rfl⟩
end Go.Proofs.Ytncenfgnhamdbaa
