/-
  A device's Pages: what it has come to while it goes through the pages; WALK of the iterator of wholes.
-/
import Derived.Test.YtncenfgnhamdbaaDevAt
import Derived.Test.YtncenfgnhamdbaaRange
import Derived.Shelf.Abstract
import Derived.Shelf.RegionOpen
import Derived.OwnWalkIn
import Derived.TacticsInMore
import Derived.LoopNIn
import Derived.LoopIn
namespace Go.Proofs.Ytncenfgnhamdbaa
open Go.RowKit Go.Shelf
attribute [local go_sem] Oper.semAt_some

/-- A row of bytes, as it stands in a cell. -/
structure RV where
  A : Option Addr
  n : Nat
  c : Nat
def RV.val (r : RV) : Value := .slice r.A r.n r.c
abbrev encR : RV → List Value := fun r => [r.val]
theorem encR_len (r : RV) : (encR r).length = 1 := rfl
theorem encR_one (r : RV) : ∀ u ∈ encR r, u.oneCell' = true := by
  intro u hu
  simp only [encR, List.mem_cons, List.not_mem_nil, or_false] at hu
  subst hu
  rfl
/-- Rows of bytes of the call's own, newer than the world a. -/
def Rws (a w : World) (rs : List RV) (ls : List (List UInt8)) : Prop := rs.length = ls.length ∧ ∀ (j : Nat) (r : RV) (l : List UInt8), rs[j]? = some r → ls[j]? = some l → Own 5 w r.val l ∧ NB a r.val
theorem Rws.nil (a w : World) : Rws a w [] [] := ⟨rfl, fun j r l h => by simp at h⟩
theorem Rws.kept {S : Nat → Prop} {a w w' : World} {rs : List RV} {ls : List (List UInt8)} (h : Rws a w rs ls) (k : Keep S w w') (hs : ∀ r ∈ rs, ∀ i, r.val.ownBlock = some i → ¬ S i) : Rws a w' rs ls :=
  ⟨h.1, fun j r l hr hl => ⟨(h.2 j r l hr hl).1.kept k (hs r (List.mem_of_getElem? hr)), (h.2 j r l hr hl).2⟩⟩
theorem Rws.own {a w : World} {rs : List RV} {ls : List (List UInt8)} (h : Rws a w rs ls) {r : RV} (hr : r ∈ rs) : ∃ l, Own 5 w r.val l ∧ NB a r.val := by
  obtain ⟨j, hj⟩ := List.mem_iff_getElem?.1 hr
  have hlt : j < ls.length := by rw [← h.1]; exact (List.getElem?_eq_some_iff.1 hj).1
  exact ⟨_, h.2 j r _ hj (List.getElem?_eq_getElem hlt)⟩
theorem Rws.snoc {a w : World} {rs : List RV} {ls : List (List UInt8)} (h : Rws a w rs ls) {r : RV} {l : List UInt8} (ho : Own 5 w r.val l) (hn : NB a r.val) : Rws a w (rs ++ [r]) (ls ++ [l]) := by
  refine ⟨by rw [List.length_append, List.length_append, h.1]; rfl, fun j r' l' hr hl => ?_⟩
  rcases Nat.lt_or_ge j rs.length with hj | hj
  · rw [List.getElem?_append_left hj] at hr
    rw [List.getElem?_append_left (by rw [← h.1]; exact hj)] at hl
    exact h.2 j r' l' hr hl
  · rw [List.getElem?_append_right hj] at hr
    rw [List.getElem?_append_right (by rw [← h.1]; exact hj), ← h.1] at hl
    have hj0 : j - rs.length = 0 := by
      rcases Nat.eq_zero_or_pos (j - rs.length) with h' | h'
      · exact h'
      · rw [List.getElem?_eq_none (by simp; omega)] at hr; cases hr
    rw [hj0] at hr hl
    injection hr with hr
    injection hl with hl
    subst hr hl
    exact ⟨ho, hn⟩
/-- A page, as it stands in its row, and what it is. -/
abbrev Dpg := PV × Pg
def wsOf (qs : List PV) (ps : List Pg) (k : Nat) : List Dpg := ((qs.zip ps).take k).filter fun x => x.2.st == 1
def lsOf (xs : List Dpg) : List (List UInt8) := xs.map fun x => x.2.by_
theorem wsOf_zero (qs : List PV) (ps : List Pg) : wsOf qs ps 0 = [] := rfl
theorem wsOf_succ {qs : List PV} {ps : List Pg} {k : Nat} {q : PV} {p : Pg} (hq : qs[k]? = some q) (hp : ps[k]? = some p) : wsOf qs ps (k + 1) = wsOf qs ps k ++ (if p.st = 1 then [(q, p)] else []) := by
  have hz : (qs.zip ps)[k]? = some (q, p) := by
    rw [List.getElem?_zip_eq_some]
    exact ⟨hq, hp⟩
  have hlt : k < (qs.zip ps).length := (List.getElem?_eq_some_iff.1 hz).1
  have e : (qs.zip ps)[k] = (q, p) := by
    rw [List.getElem?_eq_getElem hlt] at hz
    exact Option.some.inj hz
  unfold wsOf
  rw [List.take_succ_eq_append_getElem hlt, List.filter_append, e]
  by_cases h1 : p.st = 1
  · rw [if_pos h1]
    simp [h1]
  · rw [if_neg h1]
    simp [h1]
theorem lsOf_all : ∀ (qs : List PV) (ps : List Pg), qs.length = ps.length → lsOf ((qs.zip ps).filter fun x => x.2.st == 1) = wholes ps
  | [], [], _ => rfl
  | q :: qs, p :: ps, h => by
    have ih := lsOf_all qs ps (by simpa using h)
    simp only [lsOf, wholes] at ih ⊢
    by_cases h1 : p.st = 1
    · simp [h1, ih]
    · simp [h1, ih]
theorem lsOf_ws (qs : List PV) (ps : List Pg) (h : qs.length = ps.length) : lsOf (wsOf qs ps ps.length) = wholes ps := by
  unfold wsOf
  rw [List.take_of_length_le (by rw [List.length_zip]; omega)]
  exact lsOf_all qs ps h
/-- What Pages has come to: the device, the iterator's box, the row of rows. -/
structure PS (w : World) (g : Nat) (v : Value) (qs : List PV) (d : Dv) (B ab : Nat) (pre : List Dpg) (X : World) : Prop where
  dev : DevAt X g v qs d
  box : X.heap[B]? = some (.cells #[.pointer (some ⟨g, 0, none⟩)] 24 (0, 0))
  all : ∃ va rs, X.heap[ab]? = some (.cells #[va] 39 (0, 0)) ∧ OwnC 31 1 encR X va rs ∧ NB w va ∧ Rws w X rs (lsOf pre)
  keep : KF w X
  few : pre.length ≤ d.pages.length
  new : w.heap.size ≤ ab ∧ w.heap.size ≤ B ∧ B ≠ ab
  low : ∀ i, DFoot g v qs i → i < w.heap.size
section
variable {w X Y : World} {g B ab : Nat} {v : Value} {qs : List PV} {d : Dv} {pre : List Dpg}
theorem DevAt.foot_cells (h : DevAt X g v qs d) {i : Nat} (hi : DFoot g v qs i) : ∃ cs t fr, X.heap[i]? = some (.cells cs t fr) := by
  rcases hi with rfl | hi | ⟨q, hq, hi⟩
  · exact ⟨_, _, _, h.dev⟩
  · obtain ⟨cs, e⟩ := h.row.cells_ hi
    exact ⟨_, _, _, e⟩
  · obtain ⟨j, hj⟩ := List.mem_iff_getElem?.1 hq
    have hlt : j < d.pages.length := by
      rw [← h.len]
      exact (List.getElem?_eq_some_iff.1 hj).1
    rcases (h.held.2 j q _ hj (List.getElem?_eq_getElem hlt)).2.2 with ⟨e, _⟩ | ⟨g', cap, cur, e, _, hg, _⟩
    · rw [e] at hi; simp [Value.ownBlock] at hi
    · rw [e] at hi
      simp only [Value.ownBlock, Option.some.injEq] at hi
      subst hi
      exact ⟨_, _, _, hg⟩
theorem PS.kept {S : Nat → Prop} (h : PS w g v qs d B ab pre X) (k : Keep S X Y) (hc : ∀ i cs t fr, X.heap[i]? = some (.cells cs t fr) → ¬ S i) (hw : ∀ i, i < w.heap.size → ¬ S i) : PS w g v qs d B ab pre Y := by
  obtain ⟨va, rs, e1, e2, e3, e4⟩ := h.all
  refine ⟨h.dev.kept k (fun i hi => ?_), (k.block _ (lt_of_block h.box) (hc _ _ _ _ h.box)).trans h.box, ⟨va, rs, (k.block _ (lt_of_block e1) (hc _ _ _ _ e1)).trans e1, e2.kept k (fun i hi => ?_), e3, e4.kept k (fun r hr i hi => ?_)⟩, Keep.trans h.keep k (fun i hi e => hw i hi e), h.few, h.new, h.low⟩
  · obtain ⟨cs, t, fr, e⟩ := h.dev.foot_cells hi
    exact hc _ _ _ _ e
  · obtain ⟨cs, e⟩ := e2.cells_ hi
    exact hc _ _ _ _ e
  · obtain ⟨l, ho, _⟩ := e4.own hr
    rcases ho.2 with ⟨e, _⟩ | ⟨g', cap, cur, e, _, hg, _⟩
    · rw [e] at hi; simp [Value.ownBlock] at hi
    · rw [e] at hi
      simp only [Value.ownBlock, Option.some.injEq] at hi
      subst hi
      exact hc _ _ _ _ hg
theorem PS.far (h : PS w g v qs d B ab pre X) (k : KF X Y) : PS w g v qs d B ab pre Y := h.kept k (fun _ _ _ _ _ h => h) (fun _ _ h => h)
theorem PS.stands {b : Nat} (hb : w.heap.size ≤ b) : Stands b (PS w g v qs d B ab pre) := fun Z i o o' hi ho hc h => by
  refine h.kept (keep_put Z i o') ?_ (fun j hj e => by omega)
  rintro j cs t fr hj rfl
  rw [ho] at hj
  injection hj with hj
  rw [hj] at hc
  cases hc
end
def PM (w : World) (g : Nat) (v : Value) (qs : List PV) (d : Dv) (B ab : Nat) (pre : List Dpg) (x : Dpg) (X : World) : Prop :=
  PS w g v qs d B ab pre X ∧ pre.length < d.pages.length ∧ Own 5 X x.1.e1 x.2.by_ ∧ x.2.by_.length ≤ 1000
def PD (w : World) (g : Nat) (v : Value) (qs : List PV) (d : Dv) (B ab : Nat) (xs : List Dpg) (X : World) : Prop := xs = wsOf qs d.pages d.pages.length ∧ PS w g v qs d B ab xs X
theorem wsOf_len (qs : List PV) (ps : List Pg) (k : Nat) : (wsOf qs ps k).length ≤ k := by
  unfold wsOf
  exact Nat.le_trans (List.length_filter_le _ _) (by rw [List.length_take]; omega)
set_option maxRecDepth 100000 in
set_option maxHeartbeats 1000000 in
theorem iter_wholes (w : World) (g : Nat) (v : Value) (qs : List PV) (d : Dv) (B ab b l : Nat) (BK : World → Prop) (hBK : ∀ X Y, BK X → KeepsFrom b X Y → BK Y)
    (hY : ∀ pre x X, PM w g v qs d B ab pre x X → BK X → YieldAt Fence.wide (3 - 1 - 1) Try.prog l #[x.1.e1] X fun e Y => e = .returned (.bool true) ∧ PS w g v qs d B ab (pre ++ [x]) Y ∧ BK Y)
    (W : World) (h0 : PS w g v qs d B ab [] W) (hb : BK W) :
    CallsIn Fence.wide (3 - 1) Try.prog 29 #[.func (.yield l) #[] #[], .pointer (some ⟨B, 0, none⟩)] W fun e Y => (∃ v, e = .returned v) ∧ BK Y ∧ ∃ xs, PD w g v qs d B ab xs Y := by
  have hcB := cell_of_one h0.box
  obtain ⟨A, c, hv, hc1, hc2, _, _⟩ := h0.dev.shape
  have hcd := h0.dev.cells.2.1
  rw [hv] at hcd
  have HV := Lib.hid hv
  clear hv
  have hlen := h0.dev.len
  have hb16 : d.pages.length ≤ 65536 := Nat.le_trans h0.dev.good.room h0.dev.room
  refine callsIn_of_wp Try.func29 rfl trivial ?_ rfl
  simp only [Try.ntmps29, List.size_toArray, List.length_cons, List.length_nil, Nat.reduceAdd, Nat.reduceSub, Array.replicate_succ, Array.replicate_zero, List.push_toArray, List.append_toArray, List.nil_append, List.cons_append]
  gi_wp2
  gi_loopw [10] (fun h wr => ∃ k : Nat, h = .int .i64 k ∧ k ≤ d.pages.length ∧ PS w g v qs d B ab (wsOf qs d.pages k) wr ∧ BK wr) (fun h _ => d.pages.length - (intOf h).toNat)
  case atStart => exact ⟨0, rfl, Nat.zero_le _, h0, hb⟩
  case round =>
    obtain ⟨k, rfl, hk, hP, hB⟩ := hrel
    rcases Nat.lt_or_ge k d.pages.length with hlt | hge
    · have hlt' : (k : Int) < (d.pages.length : Int) := by omega
      have hw64 : IntKind.i64.wrap ((k : Int) + 1) = ((k + 1 : Nat) : Int) := by rw [IntKind.wrap_i64]; omega
      obtain ⟨q, hq⟩ : ∃ q, qs[k]? = some q := ⟨_, List.getElem?_eq_getElem (by rw [hlen]; exact hlt)⟩
      obtain ⟨p, hp⟩ : ∃ p, d.pages[k]? = some p := ⟨_, List.getElem?_eq_getElem hlt⟩
      obtain ⟨A', c', e, _, _, hR, _⟩ := hP.dev.shape
      rw [HV.out] at e
      injection e with e _ e3
      subst e e3
      obtain ⟨bb, o, rfl, _, hcell⟩ := hR k q hq
      have n0 : wr.cell? ⟨bb, o + k * 2, none⟩ = some (.int .u8 (q.st : Int)) := hcell 0 _ rfl
      have n1 : wr.cell? ⟨bb, o + k * 2 + 1, none⟩ = some (.slice q.A q.n q.c) := hcell 1 _ rfl
      obtain ⟨hst, how⟩ := hP.dev.held.2 k q p hq hp
      obtain ⟨wX, hwX⟩ : ∃ wX, wr.alloc (.cells #[.int .u8 (q.st : Int), .slice q.A q.n q.c] 52) = wX := ⟨_, rfl⟩
      have kX : KF wr wX := by rw [← hwX]; exact (KF.refl wr).alloc _
      have bX : wX.heap[wr.heap.size]? = some (.cells #[.int .u8 (q.st : Int), .slice q.A q.n q.c] 52 (0, 0)) := by rw [← hwX]; exact heap_alloc_new wr _
      have hPX := hP.far kX
      have hBX := hBK _ _ hB (keepsFrom_of kX (fun i h => h.elim) b)
      have hnx := wsOf_succ hq hp
      have x0 : wX.cell? ⟨wr.heap.size, 0, none⟩ = some (.int .u8 (q.st : Int)) := by simp [World.cell?, bX]
      have x1 : wX.cell? ⟨wr.heap.size, 1, none⟩ = some (.slice q.A q.n q.c) := by simp [World.cell?, bX]
      by_cases h1 : p.st = 1
      · have e1 : (q.st : Int) = 1 := by rw [hst, h1]; rfl
        rw [e1] at hwX n0 x0 bX
        rw [if_pos h1] at hnx
        have hM : PM w g v qs d B ab (wsOf qs d.pages k) (q, p) wX := ⟨hPX, Nat.lt_of_le_of_lt (wsOf_len _ _ _) hlt, how.kept kX (fun _ _ h => h), hP.dev.short p (List.mem_of_getElem? hp)⟩
        obtain ⟨fn, tmps, assign, body, hy, hR2⟩ := hY _ (q, p) wX hM hBX
        dsimp only [PV.e1] at hy
        have HNX := Lib.hid hnx
        clear hM hPX hnx hcell hR bX hP how
        subst hwX
        gi_wp2
        refine hR2.mono ?_
        rintro e w3 ⟨rfl, hI3, hB3⟩
        have HI3 : Hid (PS w g v qs d B ab (wsOf qs d.pages (k + 1)) w3) := Lib.hid (by rw [HNX.out]; exact hI3)
        clear hI3 hR2 hy x0 x1 n0 n1
        gi_wp2
        refine ⟨⟨k + 1, by go_num, by omega, HI3.out, hB3⟩, ?_⟩
        simp only [intOf]
        omega
      · have hq1 : ((q.st : Int) == 1) = false := by rw [hst]; simp; omega
        rw [if_neg h1, List.append_nil] at hnx
        have HI3 : Hid (PS w g v qs d B ab (wsOf qs d.pages (k + 1)) wX) := Lib.hid (by rw [hnx]; exact hPX)
        clear hst hPX hnx hcell hR bX hP how
        subst hwX
        gi_wp2
        refine ⟨fun _ h => (by cases h), ?_⟩
        gi_wp2
        refine ⟨⟨k + 1, by go_num, by omega, HI3.out, hBX⟩, ?_⟩
        simp only [intOf]
        omega
    · obtain rfl : k = d.pages.length := by omega
      have hlt' : ¬ (d.pages.length : Int) < (d.pages.length : Int) := by omega
      gi_wp2
      go_end0
      exact ⟨⟨_, rfl⟩, hB, _, rfl, hP⟩
end Go.Proofs.Ytncenfgnhamdbaa
