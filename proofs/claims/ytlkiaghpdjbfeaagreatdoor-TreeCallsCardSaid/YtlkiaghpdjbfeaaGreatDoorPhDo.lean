/-
  The program's change and Do: each call, as the document's tree does it.
-/
import Derived.Test.YtlkiaghpdjbfeaaGreatDoorPk5
import Derived.Test.YtlkiaghpdjbfeaaGreatDoorPhAdd
import Derived.Test.YtlkiaghpdjbfeaaGreatDoorPhWrite
import Derived.Test.YtlkiaghpdjbfeaaGreatDoorPhRead
namespace Go.Proofs.YtlkiaghpdjbfeaaGreatDoor
open Go.RowKit Go.Maps

/-- A call in memory: its texts and bytes. -/
structure CallIn (w : World) (B : Nat) (c : TCall) (A : Option Addr) (k c0 : Nat) : Prop where
  len : k = c.data.length
  fit : k ≤ 1000000 ∧ c.path.length ≤ 1000000 ∧ c.other.length ≤ 1000000
  rd : Rd w B A c.data
/-- A call's value. -/
abbrev callV (c : TCall) (A : Option Addr) (k c0 : Nat) : Value := .agg (callC c.kind c.off c.n (ba c.path) (ba c.other) (.slice A k c0))

/-- Does a kind of call read alone? -/
def reads (k : Int) : Bool := decide (k = 8 ∨ k = 10 ∨ k = 11)

set_option maxRecDepth 100000 in
set_option maxHeartbeats 8000000 in
theorem change_any (c : TCall) (A : Option Addr) (k c0 B : Nat) (w : World) (L : Lay) (N : Nat) (t : Tr) (hT : TreeAt w L N t) (g : Good t) (he : Env w) (hN : N ≤ 1000000) (hc : CallIn w B c A k c0) (hB : B ≤ w.heap.size) (hBf : ∀ a : Addr, A = some a → 0 < c.data.length → ¬ Foot L t a.block)
    (hr : reads c.kind = false) :
    Calls Tryz.prog 26 #[.pointer (some ⟨L.tb, 0, none⟩), callV c A k c0] w (Changed L N t (doT t c) w) := by
  have hp : (ba c.path).size ≤ 1000000 := by rw [ba_size]; exact hc.fit.2.1
  have ho : (ba c.other).size ≤ 1000000 := by rw [ba_size]; exact hc.fit.2.2
  have kA : ∀ X, KF w (w.alloc X) := fun X => (KF.refl w).alloc X
  have HT := Lib.hid hT
  have lift : ∀ (r : TAns × Tr) (X : Obj) (e : Ending) (w' : World), Changed L N t r (w.alloc X) e w' → Changed L N t r w e w' := fun r X e w' ⟨h1, L', h2, h3, h4, h5⟩ =>
    ⟨h1, L', h2, h3, Keep.trans ((kA X).keep) h4 fun _ _ h => h, fun q hq => (h5 q hq).imp id fun h => Nat.le_trans (by simp) h⟩
  have H1 := Lib.hid fun X => (add_any 1 (.inl rfl) (ba c.path) (w.alloc X) L N t (hT.far (kA X)) g hp (he.kept (kA X)) hN).mono (lift _ X)
  have H3 := Lib.hid fun X => (add_any 2 (.inr rfl) (ba c.path) (w.alloc X) L N t (hT.far (kA X)) g hp (he.kept (kA X)) hN).mono (lift _ X)
  have H2 := Lib.hid fun X => (rmdir_any c.kind c.off c.n (ba c.path) (ba c.other) (.slice A k c0) (w.alloc X) L N t (hT.far (kA X)) g hp (he.kept (kA X)) hN).mono (lift _ X)
  have H4 := Lib.hid fun X => (unlink_any c.kind c.off c.n (ba c.path) (ba c.other) (.slice A k c0) (w.alloc X) L N t (hT.far (kA X)) g hp (he.kept (kA X)) hN).mono (lift _ X)
  have H5 := Lib.hid fun X => (link_any c.kind c.off c.n (ba c.path) (ba c.other) (.slice A k c0) (w.alloc X) L N t (hT.far (kA X)) g hp ho (he.kept (kA X)) hN).mono (lift _ X)
  have H6 := Lib.hid fun X => (rename_any c.kind c.off c.n (ba c.path) (ba c.other) (.slice A k c0) (w.alloc X) L N t (hT.far (kA X)) g hp ho (he.kept (kA X)) hN).mono (lift _ X)
  have H7 := Lib.hid fun X => (write_any c.kind c.off c.n (ba c.path) (ba c.other) A k c0 c.data (w.alloc X) L N t (hT.far (kA X)) g hp (he.kept (kA X)) hc.len hc.fit.1 B (hc.rd.alloc hB X) (Nat.le_trans hB (kA X).size) hBf).mono (lift _ X)
  have H9 := Lib.hid fun X => (cut_any c.kind c.off c.n (ba c.path) (ba c.other) (.slice A k c0) (w.alloc X) L N t (hT.far (kA X)) g hp (he.kept (kA X))).mono (lift _ X)
  have e1 : (ba c.path).data.toList = c.path := rfl
  have e2 : (ba c.other).data.toList = c.other := rfl
  rw [e1] at H1 H2 H3 H4 H5 H6 H7 H9
  rw [e2] at H5 H6
  have hr' := of_decide_eq_false hr
  have ht : ∀ {m : Int} {r}, c.kind = m → doT t c = r → True := fun _ _ => trivial
  have HD : Hid (∀ P : TAns × Tr → Prop, (c.kind = 1 → P (doMake t 1 c.path)) → (c.kind = 2 → P (doRmdir t c.path)) → (c.kind = 3 → P (doMake t 2 c.path)) → (c.kind = 4 → P (doUnlink t c.path)) → (c.kind = 5 → P (doLink t c.path c.other)) → (c.kind = 6 → P (doRename t c.path c.other)) →
      (c.kind = 7 → P (doWrite t c.path c.off c.data)) → (c.kind = 9 → P (doCut t c.path c.n)) → (c.kind = 12 → P (okA, t)) → ((c.kind < 1 ∨ 12 < c.kind) → P (errA 1, t)) → P (doT t c)) :=
    Lib.hid fun P h1 h2 h3 h4 h5 h6 h7 h9 h12 hx => doT_cases t c P h1 h2 h3 h4 h5 h6 h7 (fun h => by omega) h9 (fun h => by omega) (fun h => by omega) h12 hx
  refine HD.out (fun r => Calls _ _ _ w (Changed L N t r w)) ?_ ?_ ?_ ?_ ?_ ?_ ?_ ?_ ?_ ?_
  all_goals
    intro hk
    clear HD ht hr hr' lift
    have HKK := Lib.hid hk
    obtain ⟨kd, path, other, off, n, data⟩ := c
    simp only at *
  · subst hk
    go_enter Tryz.func26, Tryz.ntmps26
    go_wp2_with fail
    refine (H1.out _).mono ?_
    rintro e w1 h1
    obtain ⟨rfl, h1⟩ := h1
    have HP := Lib.hid h1
    clear h1
    go_wp2_with fail
    go_ret
    exact ⟨rfl, HP.out⟩
  · subst hk
    go_enter Tryz.func26, Tryz.ntmps26
    go_wp2_with fail
    refine (H2.out _).mono ?_
    rintro e w1 h1
    obtain ⟨rfl, h1⟩ := h1
    have HP := Lib.hid h1
    clear h1
    go_wp2_with fail
    go_ret
    exact ⟨rfl, HP.out⟩
  · subst hk
    go_enter Tryz.func26, Tryz.ntmps26
    go_wp2_with fail
    refine (H3.out _).mono ?_
    rintro e w1 h1
    obtain ⟨rfl, h1⟩ := h1
    have HP := Lib.hid h1
    clear h1
    go_wp2_with fail
    go_ret
    exact ⟨rfl, HP.out⟩
  · subst hk
    go_enter Tryz.func26, Tryz.ntmps26
    go_wp2_with fail
    refine (H4.out _).mono ?_
    rintro e w1 h1
    obtain ⟨rfl, h1⟩ := h1
    have HP := Lib.hid h1
    clear h1
    go_wp2_with fail
    go_ret
    exact ⟨rfl, HP.out⟩
  · subst hk
    go_enter Tryz.func26, Tryz.ntmps26
    go_wp2_with fail
    refine (H5.out _).mono ?_
    rintro e w1 h1
    obtain ⟨rfl, h1⟩ := h1
    have HP := Lib.hid h1
    clear h1
    go_wp2_with fail
    go_ret
    exact ⟨rfl, HP.out⟩
  · subst hk
    go_enter Tryz.func26, Tryz.ntmps26
    go_wp2_with fail
    refine (H6.out _).mono ?_
    rintro e w1 h1
    obtain ⟨rfl, h1⟩ := h1
    have HP := Lib.hid h1
    clear h1
    go_wp2_with fail
    go_ret
    exact ⟨rfl, HP.out⟩
  · subst hk
    go_enter Tryz.func26, Tryz.ntmps26
    go_wp2_with fail
    refine (H7.out _).mono ?_
    rintro e w1 h1
    obtain ⟨rfl, h1⟩ := h1
    have HP := Lib.hid h1
    clear h1
    go_wp2_with fail
    go_ret
    exact ⟨rfl, HP.out⟩
  · subst hk
    go_enter Tryz.func26, Tryz.ntmps26
    go_wp2_with fail
    refine (H9.out _).mono ?_
    rintro e w1 h1
    obtain ⟨rfl, h1⟩ := h1
    have HP := Lib.hid h1
    clear h1
    go_wp2_with fail
    go_ret
    exact ⟨rfl, HP.out⟩
  · subst hk
    go_enter Tryz.func26, Tryz.ntmps26
    go_wp2_with fail
    go_ret
    exact Changed.quiet HT.out (kA _) rfl
  · have no : ∀ m : Int, 1 ≤ m → m ≤ 12 → (kd == m) = false := fun m h1 h2 => beq_eq_false_iff_ne.2 (by omega)
    have n1 := no 1 (by omega) (by omega)
    have n2 := no 2 (by omega) (by omega)
    have n3 := no 3 (by omega) (by omega)
    have n4 := no 4 (by omega) (by omega)
    have n5 := no 5 (by omega) (by omega)
    have n6 := no 6 (by omega) (by omega)
    have n7 := no 7 (by omega) (by omega)
    have n9 := no 9 (by omega) (by omega)
    have n12 := no 12 (by omega) (by omega)
    clear no hk
    go_enter Tryz.func26, Tryz.ntmps26
    go_wp2_with fail
    go_ret
    exact Changed.err (c := 1) HT.out (kA _) rfl

/-- What Do answers, and leaves. -/
def Done (L : Lay) (N : Nat) (t : Tr) (r : TAns × Tr) (w : World) (e : Ending) (w' : World) : Prop :=
  ∃ A c A' c', e = .returned (.agg (ansC r.1 A c A' c')) ∧ Rd w' w'.heap.size A r.1.data ∧ Strs w' w'.heap.size A' (r.1.names.map ba) ∧ (∀ x : Addr, A = some x → w.heap.size ≤ x.block) ∧ (∀ x : Addr, A' = some x → w.heap.size ≤ x.block) ∧
    ∃ L' : Lay, L'.tb = L.tb ∧ TreeAt w' L' (N + 1) r.2 ∧ Keep (Foot L t) w w' ∧ (∀ k, Foot L' r.2 k → Foot L t k ∨ w.heap.size ≤ k) ∧ (∀ x : Addr, A = some x → ¬ Foot L' r.2 x.block) ∧ (∀ x : Addr, A' = some x → ¬ Foot L' r.2 x.block)
theorem Done.of_ansd {L : Lay} {N : Nat} {t : Tr} {r : TAns × Tr} {w w' : World} {e : Ending} (hT : TreeAt w L N t) (h : Ansd r.1 w e w') (h2 : r.2 = t) : Done L N t r w e w' := by
  obtain ⟨A, c, A', c', he, hr, hs, h3, h4, k⟩ := h
  refine ⟨A, c, A', c', he, hr, hs, h3, h4, L, rfl, by rw [h2]; exact (hT.far k).mono (Nat.le_succ _), k.keep, fun q hq => .inl (by rw [h2] at hq; exact hq), fun x hx hf => ?_, fun x hx hf => ?_⟩
  · rw [h2] at hf
    have := hT.lt hf
    have := h3 x hx
    omega
  · rw [h2] at hf
    have := hT.lt hf
    have := h4 x hx
    omega
theorem doT_plain {t : Tr} {c : TCall} (h : reads c.kind = false) : (doT t c).1 = errA (doT t c).1.err := by
  have h' := of_decide_eq_false h
  refine doT_cases t c (fun r => r.1 = errA r.1.err) (fun _ => ?_) (fun _ => ?_) (fun _ => ?_) (fun _ => ?_) (fun _ => ?_) (fun _ => ?_) (fun _ => ?_) (fun h => by omega) (fun _ => ?_) (fun h => by omega) (fun h => by omega) (fun _ => rfl) (fun _ => rfl)
  · unfold doMake; split <;> (try rfl); split <;> rfl
  · unfold doRmdir; split <;> (try rfl); split <;> (try rfl); split <;> rfl
  · unfold doMake; split <;> (try rfl); split <;> rfl
  · unfold doUnlink; split <;> (try rfl); split <;> rfl
  · unfold doLink; split <;> (try rfl); split <;> (try rfl); split <;> rfl
  · unfold doRename; split <;> (try rfl); split <;> (try rfl); split <;> (try rfl); split <;> rfl
  · unfold doWrite; split <;> (try rfl); split <;> (try rfl); split <;> rfl
  · unfold doCut; split <;> (try rfl); split <;> (try rfl); split <;> rfl

theorem fresh_ansK {S : Nat → Prop} {w w1 : World} {X : Obj} {ty : TypeId} {v0 v1 v2 v3 v4 v5 : Value} (k : Keep S ((w.alloc X).alloc (.cells #[v0, v1, v2, v3, v4, v5] ty)) w1) (hS : ¬ S (w.heap.size + 1)) :
    w1.cell? ⟨w.heap.size + 1, 0, none⟩ = some v0 ∧ w1.cell? ⟨w.heap.size + 1, 1, none⟩ = some v1 ∧ w1.cell? ⟨w.heap.size + 1, 2, none⟩ = some v2 ∧ w1.cell? ⟨w.heap.size + 1, 3, none⟩ = some v3 ∧
    w1.cell? ⟨w.heap.size + 1, 4, none⟩ = some v4 ∧ w1.cell? ⟨w.heap.size + 1, 5, none⟩ = some v5 ∧ w1.frozen? ⟨w.heap.size + 1, 0, none⟩ = false ∧ w1.frozen? ⟨w.heap.size + 1, 1, none⟩ = false ∧
    w1.frozen? ⟨w.heap.size + 1, 2, none⟩ = false ∧ w1.frozen? ⟨w.heap.size + 1, 3, none⟩ = false ∧ w1.frozen? ⟨w.heap.size + 1, 4, none⟩ = false ∧ w1.frozen? ⟨w.heap.size + 1, 5, none⟩ = false := by
  have e : (w.alloc X).heap.size = w.heap.size + 1 := by simp
  have hb : w1.heap[w.heap.size + 1]? = some (.cells #[v0, v1, v2, v3, v4, v5] ty) := by
    rw [k.block _ (by simp) hS, ← e]
    exact heap_alloc_new _ _
  simp [World.cell?, World.frozen?, hb]
/-- The six cells of an answer, stored. -/
abbrev six (w1 : World) (b : Nat) (a : TAns) (A : Option Addr) (c : Nat) (A' : Option Addr) (c' : Nat) : World :=
  (((((w1.setCell ⟨b, 0, none⟩ (.int .i64 (a.err : Int))).setCell ⟨b, 1, none⟩ (.int .i64 (a.kind : Int))).setCell ⟨b, 2, none⟩ (.int .i64 (a.size : Int))).setCell ⟨b, 3, none⟩ (.int .i64 (a.links : Int))).setCell ⟨b, 4, none⟩ (.slice A a.data.length c)).setCell ⟨b, 5, none⟩ (.slice A' a.names.length c')
theorem Ansd.stored {w w1 : World} {X Y : Obj} {a : TAns} {A A' : Option Addr} {c c' : Nat} (h2 : Rd w1 w1.heap.size A a.data) (h3 : Strs w1 w1.heap.size A' (a.names.map ba)) (h4 : ∀ x : Addr, A = some x → ((w.alloc X).alloc Y).heap.size ≤ x.block) (h5 : ∀ x : Addr, A' = some x → ((w.alloc X).alloc Y).heap.size ≤ x.block) (h6 : KF ((w.alloc X).alloc Y) w1) :
    Ansd a w (.returned (.agg (ansC a A c A' c'))) (six w1 (w.heap.size + 1) a A c A' c') := by
  have hs : ((w.alloc X).alloc Y).heap.size = w.heap.size + 2 := by simp
  rw [hs] at h4 h5
  have k6 := keep_six w1 (.int .i64 (a.err : Int)) (.int .i64 (a.kind : Int)) (.int .i64 (a.size : Int)) (.int .i64 (a.links : Int)) (.slice A a.data.length c) (.slice A' a.names.length c') (w.heap.size + 1)
  refine ⟨A, c, A', c', rfl, (h2.keepS (Nat.le_refl _) k6 fun x hx e => by have := h4 x hx; omega).more k6.size, h3.keepS k6 fun x hx e => by have := h5 x hx; omega, fun x hx => by have := h4 x hx; omega, fun x hx => by have := h5 x hx; omega, Keep.trans (fresh_far (fresh_far h6)) k6 fun i hi e => by omega⟩
theorem Done.of_changed {L : Lay} {N : Nat} {t : Tr} {r : TAns × Tr} {w w1 : World} {X Y : Obj} (hT : TreeAt w L N t) (hr : r.1 = errA r.1.err)
    (h : ∃ L' : Lay, L'.tb = L.tb ∧ TreeAt w1 L' (N + 1) r.2 ∧ Keep (Foot L t) ((w.alloc X).alloc Y) w1 ∧ ∀ k, Foot L' r.2 k → Foot L t k ∨ ((w.alloc X).alloc Y).heap.size ≤ k) :
    Done L N t r w (.returned (.agg (ansC (errA r.1.err) none 0 none 0))) (six w1 (w.heap.size + 1) (errA r.1.err) none 0 none 0) := by
  obtain ⟨L', h1, h2, h3, h4⟩ := h
  have hs : ((w.alloc X).alloc Y).heap.size = w.heap.size + 2 := by simp
  have k6 := keep_six w1 (.int .i64 (r.1.err : Int)) (.int .i64 0) (.int .i64 0) (.int .i64 0) (.slice none 0 0) (.slice none 0 0) (w.heap.size + 1)
  have kA : KF w ((w.alloc X).alloc Y) := ((KF.refl w).alloc X).alloc Y
  rw [hs] at h4
  refine ⟨none, 0, none, 0, by rw [← hr], by rw [hr]; exact Rd.nil, by rw [hr]; exact Strs.nil, (fun x h => nomatch h), (fun x h => nomatch h), L', h1, h2.kept k6 fun b hb e => ?_, ?_, fun q hq => ?_, (fun x h => nomatch h), (fun x h => nomatch h)⟩
  · rcases h4 b hb with h | h
    · have := hT.lt h; omega
    · omega
  · refine Keep.trans (Keep.trans (kA.keep (S := Foot L t)) h3 fun _ _ h => h) k6 fun i hi e => by omega
  · rcases h4 q hq with h | h
    · exact .inl h
    · exact .inr (by omega)

set_option maxRecDepth 100000 in
set_option maxHeartbeats 8000000 in
theorem do_reads (c : TCall) (A : Option Addr) (k c0 B : Nat) (w : World) (L : Lay) (N : Nat) (t : Tr) (hT : TreeAt w L N t) (g : Good t) (he : Env w) (hN : N ≤ 1000000) (hc : CallIn w B c A k c0) (hr : reads c.kind = true) :
    Calls Tryz.prog 11 #[.pointer (some ⟨L.tb, 0, none⟩), callV c A k c0] w (Ansd (doT t c).1 w) := by
  have hp : (ba c.path).size ≤ 1000000 := by rw [ba_size]; exact hc.fit.2.1
  have kA : ∀ X Y, KF w ((w.alloc X).alloc Y) := fun X Y => ((KF.refl w).alloc X).alloc Y
  have HT := Lib.hid hT
  have e1 : (ba c.path).data.toList = c.path := rfl
  have hr' : c.kind = 8 ∨ c.kind = 10 ∨ c.kind = 11 := of_decide_eq_true hr
  rcases hr' with hk | hk | hk
  · have HC := Lib.hid fun X Y => read_any c.kind c.off c.n (ba c.path) (ba c.other) (.slice A k c0) ((w.alloc X).alloc Y) L N t (hT.far (kA X Y)) g hp (he.kept (kA X Y))
    have hd : doT t c = doRead t c.path c.off c.n := by unfold doT; simp [hk]
    rw [e1] at HC
    rw [hd]
    have HQ := Lib.hid (doRead_same t c.path c.off c.n)
    obtain ⟨kd, path, other, off, n, data⟩ := c
    simp only at *
    subst hk
    generalize doRead t path off n = r at *
    clear hd
    go_enter Tryz.func11, Tryz.ntmps11
    go_wp2_with fail
    refine (HC.out _ _).mono ?_
    rintro e w1 h1
    obtain ⟨A1, c1, A1', c1', rfl, h2, h3, h4, h5, h6⟩ := h1
    obtain ⟨q0, q1, q2, q3, q4, q5, f0, f1, f2, f3, f4, f5⟩ := fresh_ans h6
    have HF := Lib.hid (Ansd.stored (c := c1) (c' := c1') h2 h3 h4 h5 h6)
    clear h2 h3 h4 h5
    go_wp2_with fail
    refine bodyPost_ret (v := .agg (ansC r.1 A1 c1 A1' c1')) (by simp [results, Tryz.results11, go_sem, q0, q1, q2, q3, q4, q5]) rfl ?_
    exact HF.out
  · have HC := Lib.hid fun X Y => stat_any c.kind c.off c.n (ba c.path) (ba c.other) (.slice A k c0) ((w.alloc X).alloc Y) L N t (hT.far (kA X Y)) g hp (he.kept (kA X Y)) hN
    have hd : doT t c = doStat t c.path := by unfold doT; simp [hk]
    rw [e1] at HC
    rw [hd]
    have HQ := Lib.hid (doStat_same t c.path)
    obtain ⟨kd, path, other, off, n, data⟩ := c
    simp only at *
    subst hk
    generalize doStat t path = r at *
    clear hd
    go_enter Tryz.func11, Tryz.ntmps11
    go_wp2_with fail
    refine (HC.out _ _).mono ?_
    rintro e w1 h1
    obtain ⟨A1, c1, A1', c1', rfl, h2, h3, h4, h5, h6⟩ := h1
    obtain ⟨q0, q1, q2, q3, q4, q5, f0, f1, f2, f3, f4, f5⟩ := fresh_ans h6
    have HF := Lib.hid (Ansd.stored (c := c1) (c' := c1') h2 h3 h4 h5 h6)
    clear h2 h3 h4 h5
    go_wp2_with fail
    refine bodyPost_ret (v := .agg (ansC r.1 A1 c1 A1' c1')) (by simp [results, Tryz.results11, go_sem, q0, q1, q2, q3, q4, q5]) rfl ?_
    exact HF.out
  · have HC := Lib.hid fun X Y => list_any c.kind c.off c.n (ba c.path) (ba c.other) (.slice A k c0) ((w.alloc X).alloc Y) L N t (hT.far (kA X Y)) g hp (he.kept (kA X Y)) hN
    have hd : doT t c = doList t c.path := by unfold doT; simp [hk]
    rw [e1] at HC
    rw [hd]
    have HQ := Lib.hid (doList_same t c.path)
    obtain ⟨kd, path, other, off, n, data⟩ := c
    simp only at *
    subst hk
    generalize doList t path = r at *
    clear hd
    go_enter Tryz.func11, Tryz.ntmps11
    go_wp2_with fail
    refine (HC.out _ _).mono ?_
    rintro e w1 h1
    obtain ⟨A1, c1, A1', c1', rfl, h2, h3, h4, h5, h6⟩ := h1
    obtain ⟨q0, q1, q2, q3, q4, q5, f0, f1, f2, f3, f4, f5⟩ := fresh_ans h6
    have HF := Lib.hid (Ansd.stored (c := c1) (c' := c1') h2 h3 h4 h5 h6)
    clear h2 h3 h4 h5
    go_wp2_with fail
    refine bodyPost_ret (v := .agg (ansC r.1 A1 c1 A1' c1')) (by simp [results, Tryz.results11, go_sem, q0, q1, q2, q3, q4, q5]) rfl ?_
    exact HF.out
theorem doT_reads {t : Tr} {c : TCall} (h : reads c.kind = true) : (doT t c).2 = t := doT_quiet (by
  have h' : c.kind = 8 ∨ c.kind = 10 ∨ c.kind = 11 := of_decide_eq_true h
  unfold changes
  exact decide_eq_false (by omega))

set_option maxRecDepth 100000 in
set_option maxHeartbeats 8000000 in
theorem do_any (c : TCall) (A : Option Addr) (k c0 B : Nat) (w : World) (L : Lay) (N : Nat) (t : Tr) (hT : TreeAt w L N t) (g : Good t) (he : Env w) (hN : N ≤ 1000000) (hc : CallIn w B c A k c0) (hB : B ≤ w.heap.size) (hBf : ∀ a : Addr, A = some a → 0 < c.data.length → ¬ Foot L t a.block) :
    Calls Tryz.prog 11 #[.pointer (some ⟨L.tb, 0, none⟩), callV c A k c0] w (Done L N t (doT t c) w) := by
  have hp : (ba c.path).size ≤ 1000000 := by rw [ba_size]; exact hc.fit.2.1
  have kA : ∀ X Y, KF w ((w.alloc X).alloc Y) := fun X Y => ((KF.refl w).alloc X).alloc Y
  have HT := Lib.hid hT
  have e1 : (ba c.path).data.toList = c.path := rfl
  by_cases hr : reads c.kind = true
  · exact (do_reads c A k c0 B w L N t hT g he hN hc hr).mono fun e w' h => Done.of_ansd hT h (doT_reads hr)
  · have hrf : reads c.kind = false := by simpa using hr
    have hr' := of_decide_eq_false hrf
    have HC := Lib.hid fun X Y => change_any c A k c0 B ((w.alloc X).alloc Y) L N t (hT.far (kA X Y)) g (he.kept (kA X Y)) hN ⟨hc.len, hc.fit, (hc.rd.keepF (kA X Y) hB)⟩ (Nat.le_trans hB (kA X Y).size) hBf hrf
    have HQ := Lib.hid (doT_plain (t := t) hrf)
    have n8 : (c.kind == 8) = false := beq_eq_false_iff_ne.2 (by omega)
    have n10 : (c.kind == 10) = false := beq_eq_false_iff_ne.2 (by omega)
    have n11 : (c.kind == 11) = false := beq_eq_false_iff_ne.2 (by omega)
    generalize doT t c = r at *
    obtain ⟨kd, path, other, off, n, data⟩ := c
    simp only at *
    clear hr hrf hr' hc
    go_enter Tryz.func11, Tryz.ntmps11
    go_wp2_with fail
    refine (HC.out _ _).mono ?_
    rintro e w1 h1
    obtain ⟨rfl, h1⟩ := h1
    have hk6 : Keep (Foot L t) ((w.alloc (.cells (callC kd off n (ba path) (ba other) (.slice A k c0)) 31)).alloc (.cells #[.int .i64 0, .int .i64 0, .int .i64 0, .int .i64 0, .slice none 0 0, .slice none 0 0] 36)) w1 := by
      obtain ⟨L', _, _, h, _⟩ := h1
      exact h
    obtain ⟨q0, q1, q2, q3, q4, q5, f0, f1, f2, f3, f4, f5⟩ := fresh_ansK hk6 (fun h => by have := HT.out.lt h; omega)
    have HF := Lib.hid (Done.of_changed HT.out HQ.out h1)
    clear h1 hk6
    go_wp2_with fail
    refine bodyPost_ret (v := .agg (ansC (errA r.1.err) none 0 none 0)) (by simp [results, Tryz.results11, go_sem, q0, q1, q2, q3, q4, q5, errA]) rfl ?_
    exact HF.out
end Go.Proofs.YtlkiaghpdjbfeaaGreatDoor
