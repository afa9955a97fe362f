/-
  WALKS: octet.List at texts, by the closure of call's takeAnswer.
-/
import Derived.Test.YtklpebfkgdklmaaDoorDec
import Derived.Test.YtklpebfkgdklmaaDoorRSplit
import Derived.Test.YtklpebfkgdklmaaDoorTextsIn
import Derived.Test.YtklpebfkgdklmaaDoorRange
import Derived.Shelf.Abstract
import Derived.Shelf.RegionOpen
import Derived.OwnWalkIn
import Derived.TacticsInMore
import Derived.LoopNIn
import Derived.LoopIn
namespace Go.Proofs.YtklpebfkgdklmaaDoor
open Go.RowKit Go.Shelf
attribute [local go_sem] Oper.semAt_some

/-- A reader behind so many texts; the texts. -/
noncomputable def lstS : Nat → List UInt8 × Bool → List UInt8 × Bool
  | 0, s => s
  | k + 1, s => byS 300 (lstS k s)
noncomputable def lstV (k : Nat) (s : List UInt8 × Bool) : Txt := byV 300 (lstS k s)
noncomputable def lstN (n : Nat) (s : List UInt8 × Bool) : List Txt := (List.range n).map fun k => lstV k s
theorem lstN_length (n : Nat) (s : List UInt8 × Bool) : (lstN n s).length = n := by simp [lstN]
theorem lstN_succ (n : Nat) (s : List UInt8 × Bool) : lstN (n + 1) s = lstN n s ++ [lstV n s] := by simp [lstN, List.range_succ]
theorem byS_wrong (m : Int) : byS m ([], true) = ([], true) := by
  have hb : cntBad m ([], true) := .inl (by simp [tk, tkB])
  unfold byS cntV cntS
  rw [if_pos hb, if_pos hb]
  rfl
theorem lstS_wrong {s : List UInt8 × Bool} {k : Nat} (h : lstS k s = ([], true)) : ∀ j, lstS (k + j) s = ([], true)
  | 0 => h
  | j + 1 => by show byS 300 (lstS (k + j) s) = _; rw [lstS_wrong h j, byS_wrong]
theorem lstS_len (s : List UInt8 × Bool) : ∀ k, (lstS k s).1.length ≤ s.1.length
  | 0 => Nat.le_refl _
  | k + 1 => Nat.le_trans (byS_len 300 _) (lstS_len s k)

theorem RdQ.lt {w : World} {g q : Nat} {s : List UInt8 × Bool} (h : RdQ w g q s) : g < w.heap.size := h.e.lt
theorem RdQ.wrong {w : World} {g q : Nat} {s : List UInt8 × Bool} (h : RdQ w g q s) (hs : s.2 = true) : s = ([], true) := by
  have h1 := h.e.nil hs
  obtain ⟨l, b⟩ := s
  simp only at h1 hs
  rw [h1, hs]
/-- A reader stands, where neither its own block nor the one that its bytes lie in turns. -/
theorem RdQ.kept {S : Nat → Prop} {w w' : World} {g q : Nat} {s : List UInt8 × Bool} (h : RdQ w g q s) (k : Keep S w w') (hg : ¬ S g) (hq : ¬ S q) : RdQ w' g q s := by
  obtain ⟨A, c, h, hA⟩ := h
  refine ⟨A, c, ⟨(k.block g h.lt hg).trans h.block, fun j b hj => ?_, h.cap, h.nil⟩, hA⟩
  obtain ⟨a, rfl, hb, hc⟩ := h.rd j b hj
  have hne : s.1 ≠ [] := fun h0 => by rw [h0] at hj; simp at hj
  have hbq := hA a rfl hne
  exact ⟨a, rfl, Nat.lt_of_lt_of_le hb k.size, (k.cell (by rw [block_add]; exact hb) (by rw [block_add, hbq]; exact hq)).trans hc⟩
theorem by_q (g q : Nat) (s : List UInt8 × Bool) (most : Int) (w : World) (h : RdQ w g q s) (hb : s.1.length ≤ 70368744177664) :
    Calls Tryd.prog 65 #[.pointer (some ⟨g, 0, none⟩), .int .i64 most] w fun e w' => ∃ A1 c1, e = .returned (.slice A1 (byV most s).length c1) ∧ Rd w' w'.heap.size A1 (byV most s) ∧ (byV most s).length ≤ c1 ∧ RdQ w' g q (byS most s) ∧ Keep (fun k => k = g) w w' := by
  refine (bytes_q g q s most w h hb).mono ?_
  rintro e w' ⟨A1, n1, c1, rfl, hn, hr, hle, hs, hk⟩
  obtain rfl := hn.out
  exact ⟨A1, c1, rfl, hr, hle, hs, hk⟩
set_option maxHeartbeats 400000 in
theorem one_any (g q : Nat) (s : List UInt8 × Bool) (w : World) (h : RdQ w g q s) (hb : s.1.length ≤ 70368744177664) :
    Calls Tryd.prog 67 #[.pointer (some ⟨g, 0, none⟩)] w fun e w' => e = .returned (.string (ba (byV 300 s))) ∧ RdQ w' g q (byS 300 s) ∧ Keep (fun k => k = g) w w' := by
  have C := Lib.hid (by_q g q s 300 w h hb)
  generalize byV 300 s = v at *
  generalize byS 300 s = s' at *
  go_enter Tryd.func67, Tryd.ntmps67
  go_wp2_with fail
  refine C.out.mono ?_
  rintro e w1 ⟨A1, c1, rfl, hr, _, hs, hk⟩
  have cv := string_any c1 hr
  go_wp2_with fail
  go_ret
  exact ⟨rfl, hs, hk⟩

/-- The iterator that things gives: its captured variables lie in three new blocks. -/
def iterT (B : Nat) : Value := .func (.func 97) #[] #[.pointer (some ⟨B + 1, 0, none⟩), .pointer (some ⟨B + 1 + 1, 0, none⟩), .pointer (some ⟨B, 0, none⟩)]
theorem thingsT_any (g : Nat) (n : Int) (fn : Fn) (cs : Array Value) (w : World) :
    Calls Tryd.prog 88 #[.pointer (some ⟨g, 0, none⟩), .int .i64 n, .func fn #[] cs] w fun e w' => e = .returned (iterT w.heap.size) ∧ ((w.alloc (.cells #[.pointer (some ⟨g, 0, none⟩)] 107)).alloc (.cells #[.int .i64 n] 3)).alloc (.cells #[.func fn #[] cs] 111) = w' := by
  go_enter Tryd.func88, Tryd.ntmps88
  go_wp2
  go_ret
  exact ⟨rfl, rfl⟩

/-- The state of a list that is taken: the reader at st; the texts that have come; what the iterator has captured. -/
structure LI (w W0 : World) (g q b0 B V : Nat) (st : List UInt8 × Bool) (pre : List Txt) (X : World) : Prop where
  rd : RdQ X g q st
  box : ∃ v, X.heap[b0]? = some (.cells #[v] 26 (0, 0)) ∧ OwnT 9 X v (pre.map ba) ∧ NB W0 v
  c0 : X.heap[B]? = some (.cells #[.pointer (some ⟨g, 0, none⟩)] 107 (0, 0))
  c1 : X.heap[B + 1]? = some (.cells #[.int .i64 V] 3 (0, 0))
  c2 : X.heap[B + 1 + 1]? = some (.cells #[.func (.func 67) #[] #[]] 111 (0, 0))
  keep : Keep (fun k => k = g) w X
  size : W0.heap.size ≤ X.heap.size
/-- Where a list's blocks lie. -/
structure LW (w W0 : World) (g q b0 B : Nat) : Prop where
  g : g < w.heap.size
  q : q < w.heap.size
  b0 : w.heap.size ≤ b0 ∧ b0 < B
  B : B + 1 + 1 < W0.heap.size
theorem LI.kept {S : Nat → Prop} {w W0 : World} {g q b0 B V : Nat} {st : List UInt8 × Bool} {pre : List Txt} {X Y : World} (h : LI w W0 g q b0 B V st pre X) (k : Keep S X Y) (hg : ¬ S g) (hq : ¬ S q) (h0 : ¬ S b0) (hB : ¬ S B) (hB1 : ¬ S (B + 1)) (hB2 : ¬ S (B + 1 + 1))
    (hw : ∀ i, i < w.heap.size → S i → i = g) (hv : ∀ v i, X.heap[b0]? = some (.cells #[v] 26 (0, 0)) → v.ownBlock = some i → ¬ S i) : LI w W0 g q b0 B V st pre Y := by
  obtain ⟨v, h1, h2, h3⟩ := h.box
  exact ⟨h.rd.kept k hg hq, ⟨v, (k.block b0 (lt_of_block h1) h0).trans h1, h2.kept k (fun i hi => hv v i h1 hi), h3⟩, (k.block B (lt_of_block h.c0) hB).trans h.c0, (k.block _ (lt_of_block h.c1) hB1).trans h.c1, (k.block _ (lt_of_block h.c2) hB2).trans h.c2,
    h.keep.trans k hw, Nat.le_trans h.size k.size⟩
theorem OwnT.cells_ {E : TypeId} {w : World} {v : Value} {xs : List ByteArray} (h : OwnT E w v xs) {i : Nat} (hi : v.ownBlock = some i) : ∃ cs, w.heap[i]? = some (.cells cs E (0, 0)) := by
  rcases h.2 with ⟨rfl, _⟩ | ⟨g, cap, cur, rfl, _, hg, _⟩
  · simp [Value.ownBlock] at hi
  · simp [Value.ownBlock] at hi
    subst hi
    exact ⟨_, hg⟩
theorem LI.stands {w W0 : World} {g q b0 B V : Nat} {st : List UInt8 × Bool} {pre : List Txt} (hw : LW w W0 g q b0 B) (hsz : w.heap.size ≤ W0.heap.size) : Stands W0.heap.size (LI w W0 g q b0 B V st pre) := fun X k o o' hk ho hc h => by
  have hg := hw.g
  have hq := hw.q
  have hb := hw.b0
  have hB := hw.B
  refine h.kept (keep_put X k o') (by omega) (by omega) (by omega) (by omega) (by omega) (by omega) (fun i hi he => by omega) fun v i h1 hi he => ?_
  obtain ⟨v', h1', h2, _⟩ := h.box
  rw [h1] at h1'
  simp only [Option.some.injEq, Obj.cells.injEq, Array.mk.injEq, List.cons.injEq, and_true] at h1'
  rw [← h1'] at h2
  obtain ⟨cs, e⟩ := h2.cells_ hi
  rw [he, ho] at e
  injection e with e
  rw [e] at hc
  cases hc
/-- The reader has read on. -/
theorem LI.read {w W0 : World} {g q b0 B V : Nat} {st st' : List UInt8 × Bool} {pre : List Txt} {X Y : World} (h : LI w W0 g q b0 B V st pre X) (hw : LW w W0 g q b0 B) (hsz : w.heap.size ≤ W0.heap.size) (k : Keep (fun i => i = g) X Y) (hr : RdQ Y g q st') : LI w W0 g q b0 B V st' pre Y := by
  have hg := hw.g
  have hb := hw.b0
  have hB := hw.B
  obtain ⟨v, h1, h2, h3⟩ := h.box
  exact ⟨hr, ⟨v, (k.block b0 (lt_of_block h1) (by omega)).trans h1, h2.kept k (fun i hi he => by have := h3 i hi; omega), h3⟩, (k.block B (lt_of_block h.c0) (by omega)).trans h.c0, (k.block _ (lt_of_block h.c1) (by omega)).trans h.c1, (k.block _ (lt_of_block h.c2) (by omega)).trans h.c2,
    h.keep.trans k (fun _ _ e => e), Nat.le_trans h.size k.size⟩
theorem RdQ.cell1 {w : World} {g q : Nat} {s : List UInt8 × Bool} (h : RdQ w g q s) : w.cell? ⟨g, 1, none⟩ = some (.bool s.2) := by
  obtain ⟨A, c, h, _⟩ := h
  exact h.cell1
theorem RdQ.isCells {w : World} {g q : Nat} {s : List UInt8 × Bool} (h : RdQ w g q s) : ∃ cs t fr, w.heap[g]? = some (.cells cs t fr) := by
  obtain ⟨A, c, h, _⟩ := h
  exact ⟨_, _, _, h.block⟩
/-- Between two steps, when one has been read, at the end. -/
def IT (w W0 : World) (g q b0 B V : Nat) (s : List UInt8 × Bool) (pre : List Txt) (X : World) : Prop := pre.length ≤ V ∧ pre = lstN pre.length s ∧ LI w W0 g q b0 B V (lstS pre.length s) pre X
def MT (w W0 : World) (g q b0 B V : Nat) (s : List UInt8 × Bool) (pre : List Txt) (x : Txt) (X : World) : Prop := pre.length < V ∧ pre = lstN pre.length s ∧ x = lstV pre.length s ∧ LI w W0 g q b0 B V (lstS (pre.length + 1) s) pre X
def DT (w W0 : World) (g q b0 B V : Nat) (s : List UInt8 × Bool) (pre : List Txt) (X : World) : Prop := LI w W0 g q b0 B V (lstS V s) pre X ∧ ((lstS V s).2 = false → pre = lstN V s)
set_option maxRecDepth 100000 in
set_option maxHeartbeats 1000000 in
theorem iter_T (w W0 : World) (g q b0 B V : Nat) (s : List UInt8 × Bool) (hw : LW w W0 g q b0 B) (hsz : w.heap.size ≤ W0.heap.size) (hV : V ≤ 1000) (hs : s.1.length ≤ 70368744177664) (l : Nat) (BK : World → Prop) (hBK : ∀ X Y, BK X → KeepsFrom W0.heap.size X Y → BK Y)
    (hY : ∀ pre x X, MT w W0 g q b0 B V s pre x X → BK X → YieldAt Fence.wide (3 - 1 - 1) Tryd.prog l #[.string (ba x)] X fun e Y => e = .returned (.bool true) ∧ IT w W0 g q b0 B V s (pre ++ [x]) Y ∧ BK Y)
    (W : World) (h0 : IT w W0 g q b0 B V s [] W) (hb : BK W) :
    CallsIn Fence.wide (3 - 1) Tryd.prog 97 #[.func (.yield l) #[] #[], .pointer (some ⟨B + 1, 0, none⟩), .pointer (some ⟨B + 1 + 1, 0, none⟩), .pointer (some ⟨B, 0, none⟩)] W fun e Y => (∃ v, e = .returned v) ∧ BK Y ∧ ∃ xs, DT w W0 g q b0 B V s xs Y := by
  have hcN : W.cell? ⟨B + 1, 0, none⟩ = some (.int .i64 V) := by simp [World.cell?, h0.2.2.c1]
  refine callsIn_of_wp Tryd.func97 rfl trivial ?_ rfl
  simp only [Tryd.ntmps97, List.size_toArray, List.length_cons, List.length_nil, Nat.reduceAdd, Nat.reduceSub, Array.replicate_succ, Array.replicate_zero, List.push_toArray, List.append_toArray, List.nil_append, List.cons_append]
  gi_wp2
  gi_loopw [7] (fun i wr => ∃ pre : List Txt, i = .int .i64 pre.length ∧ IT w W0 g q b0 B V s pre wr ∧ BK wr) (fun i _ => V - (intOf i).toNat)
  case atStart => exact ⟨[], rfl, h0, hb⟩
  case round =>
    obtain ⟨pre, rfl, hI, hB⟩ := hrel
    by_cases hlt : pre.length < V
    · have hcond : ((pre.length : Int) < V) := by omega
      have hf : wr.cell? ⟨B + 1 + 1, 0, none⟩ = some (.func (.func 67) #[] #[]) := by simp [World.cell?, hI.2.2.c2]
      have hg0 : wr.cell? ⟨B, 0, none⟩ = some (.pointer (some ⟨g, 0, none⟩)) := by simp [World.cell?, hI.2.2.c0]
      have hlen := Nat.le_trans (lstS_len s pre.length) hs
      have C := Lib.hid (one_any g q (lstS pre.length s) wr hI.2.2.rd hlen)
      gi_wp2_with fail
      refine ⟨trivial, (callsIn_wide.2 C.out).mono ?_⟩
      rintro e w1 ⟨rfl, hr, hk⟩
      clear C
      have hr' : RdQ w1 g q (lstS (pre.length + 1) s) := hr
      have hL := hI.2.2.read hw hsz hk hr'
      have hB1 := hBK _ _ hB (keepsFrom_of hk (fun i hi => by subst hi; exact hI.2.2.rd.isCells) W0.heap.size)
      have hg1 : w1.cell? ⟨B, 0, none⟩ = some (.pointer (some ⟨g, 0, none⟩)) := by simp [World.cell?, hL.c0]
      have hx : byV 300 (lstS pre.length s) = lstV pre.length s := rfl
      rw [hx]
      have hc1 := hr'.cell1
      have hM : MT w W0 g q b0 B V s pre (lstV pre.length s) w1 := ⟨hlt, hI.2.1, rfl, hL⟩
      generalize lstV pre.length s = x at *
      clear hr hx
      by_cases hbad : (lstS (pre.length + 1) s).2 = true
      · have hq := hr'.wrong hbad
        rw [hbad] at hc1
        gi_wp2
        refine ⟨fun _ h => (by cases h), ?_⟩
        gi_wp2
        refine bodyPost_ret (results_none rfl _ _ _) rfl ?_
        have e : ∃ j, V = (pre.length + 1) + j := ⟨V - (pre.length + 1), by omega⟩
        obtain ⟨j, e⟩ := e
        have hall : lstS V s = ([], true) := by rw [e]; exact lstS_wrong hq j
        refine ⟨⟨_, rfl⟩, hB1, pre, ?_, fun h => ?_⟩
        · rw [hall, ← hq]; exact hL
        · rw [hall] at h; cases h
      · have hfalse : (lstS (pre.length + 1) s).2 = false := by simpa using hbad
        rw [hfalse] at hc1
        obtain ⟨fn, tmps, assign, body, hy, hR⟩ := hY pre x w1 hM hB1
        gi_wp2
        refine hR.mono ?_
        rintro e w2 ⟨rfl, hI2, hB2⟩
        gi_wp2
        refine ⟨⟨pre ++ [x], by simp, hI2, hB2⟩, ?_⟩
        simp only [intOf]
        omega
    · have hcond : ¬ ((pre.length : Int) < V) := by omega
      gi_wp2
      go_end0
      have e : V = pre.length := by have := hI.1; omega
      refine ⟨⟨_, rfl⟩, hB, pre, ?_, fun _ => ?_⟩
      · have := hI.2.2
        rwa [← e] at this
      · have := hI.2.1
        rwa [← e] at this
theorem LI.cellBox {w W0 : World} {g q b0 B V : Nat} {st : List UInt8 × Bool} {pre : List Txt} {X : World} (h : LI w W0 g q b0 B V st pre X) : ∃ v, X.cell? ⟨b0, 0, none⟩ = some v ∧ X.frozen? ⟨b0, 0, none⟩ = false ∧ OwnT 9 X v (pre.map ba) ∧ NB W0 v ∧ X.heap[b0]? = some (.cells #[v] 26 (0, 0)) := by
  obtain ⟨v, h1, h2, h3⟩ := h.box
  exact ⟨v, by simp [World.cell?, h1], by simp [World.frozen?, h1], h2, h3, h1⟩
/-- One more text is appended: behind the world X, a block for the text, what append does, the box's store. -/
theorem LI.put {w W0 : World} {g q b0 B V : Nat} {st : List UInt8 × Bool} {pre : List Txt} {x : Txt} {X Y : World} {v v' : Value} (h : LI w W0 g q b0 B V st pre X) (hw : LW w W0 g q b0 B) (hsz : w.heap.size ≤ W0.heap.size)
    (hv : X.heap[b0]? = some (.cells #[v] 26 (0, 0))) (ho : OwnT 9 X v (pre.map ba)) (hn : NB W0 v) (hg : (X.alloc (.cells #[.string (ba x)] 9)).grownBy Y v.ownBlock) (ho' : OwnT 9 Y v' (pre.map ba ++ [ba x])) (hf : v'.ownBlock = v.ownBlock ∨ v'.ownBlock = some (X.alloc (.cells #[.string (ba x)] 9)).heap.size) :
    LI w W0 g q b0 B V st (pre ++ [x]) (Y.setCell ⟨b0, 0, none⟩ v') ∧ KeepsFrom W0.heap.size X (Y.setCell ⟨b0, 0, none⟩ v') := by
  have hgl := hw.g
  have hql := hw.q
  have hbl := hw.b0
  have hBl := hw.B
  have hXs := h.size
  have k1 : Keep (fun i => v.ownBlock = some i) X Y := ((Keep.refl _ X).alloc _).grown hg (fun i e _ => e)
  have k2 : Keep (fun i => i = b0 ∨ v.ownBlock = some i) X (Y.setCell ⟨b0, 0, none⟩ v') := (k1.mono (fun i _ e => .inr e)).setCell (.inr (.inl rfl)) v'
  have hno : ∀ i, v.ownBlock = some i → W0.heap.size ≤ i := hn
  have hY0 : Y.heap[b0]? = some (.cells #[v] 26 (0, 0)) := (k1.block b0 (lt_of_block hv) (fun e => by have := hno _ e; omega)).trans hv
  have hn' : NB W0 v' := fun i e => by
    rcases hf with e' | e'
    · exact hno i (e' ▸ e)
    · rw [e'] at e
      injection e with e
      rw [World.size_alloc] at e
      omega
  refine ⟨⟨h.rd.kept k2 (by rintro (e | e); omega; have := hno _ e; omega) (by rintro (e | e); omega; have := hno _ e; omega), ⟨v', ?_, ?_, hn'⟩, ?_, ?_, ?_, ?_, ?_⟩, ?_⟩
  · exact heap_setCell_same Y b0 0 _ _ v' hY0
  · rw [List.map_append]
    refine ho'.kept (Keep.ofSet (S := fun i => i = b0) rfl v') (fun i e e0 => ?_)
    subst e0
    have := hn' _ e
    omega
  · exact (k2.block B (lt_of_block h.c0) (by rintro (e | e); omega; have := hno _ e; omega)).trans h.c0
  · exact (k2.block _ (lt_of_block h.c1) (by rintro (e | e); omega; have := hno _ e; omega)).trans h.c1
  · exact (k2.block _ (lt_of_block h.c2) (by rintro (e | e); omega; have := hno _ e; omega)).trans h.c2
  · exact h.keep.trans k2 (fun i hi e => by rcases e with e | e; omega; have := hno _ e; omega)
  · exact Nat.le_trans h.size k2.size
  · refine keepsFrom_of k2 (fun i e => ?_) _
    rcases e with rfl | e
    · exact ⟨_, _, _, hv⟩
    · obtain ⟨cs, e2⟩ := ho.cells_ e
      exact ⟨_, _, _, e2⟩
theorem box_grown {W0 X Y : World} {b0 : Nat} {v : Value} {o : Obj} (hv : X.heap[b0]? = some (.cells #[v] 26 (0, 0))) (hn : NB W0 v) (hb : b0 < W0.heap.size) (hg : (X.alloc o).grownBy Y v.ownBlock) : Y.cell? ⟨b0, 0, none⟩ = some v ∧ Y.frozen? ⟨b0, 0, none⟩ = false := by
  have k1 : Keep (fun i => v.ownBlock = some i) X Y := ((Keep.refl _ X).alloc _).grown hg (fun i e _ => e)
  have h := (k1.block b0 (lt_of_block hv) (fun e => by have := hn _ e; omega)).trans hv
  exact ⟨by simp [World.cell?, h], by simp [World.frozen?, h]⟩
theorem cntV_le (most : Int) (s : List UInt8 × Bool) (h : 0 ≤ most) : (cntV most s : Int) ≤ most := by
  unfold cntV
  by_cases hb : cntBad most s
  · rw [if_pos hb]; simpa using h
  · rw [if_neg hb]
    unfold cntBad at hb
    omega
/-- Texts that were taken: none of them, where the reader has gone wrong. -/
noncomputable def lstX (most : Int) (s : List UInt8 × Bool) : List Txt := if (lstS (cntV most s) (cntS most s)).2 then [] else lstN (cntV most s) (cntS most s)
noncomputable def lstE (most : Int) (s : List UInt8 × Bool) : List UInt8 × Bool := lstS (cntV most s) (cntS most s)
/-- A row of texts that has come, in memory of its own; the reader behind them. -/
def ListP (w : World) (g q : Nat) (xs : List Txt) (st : List UInt8 × Bool) (e : Ending) (w' : World) : Prop :=
  ∃ A c, e = .returned (.slice A xs.length c) ∧ Strs w' w'.heap.size A (xs.map ba) ∧ xs.length ≤ c ∧ (∀ a : Addr, A = some a → w.heap.size ≤ a.block) ∧ RdQ w' g q st ∧ Keep (fun k => k = g) w w'
set_option maxRecDepth 100000 in
set_option maxHeartbeats 2000000 in
theorem list_any (g q : Nat) (s : List UInt8 × Bool) (most : Int) (w : World) (h : RdQ w g q s) (hb : s.1.length ≤ 70368744177664) (hql : q < w.heap.size) (h0 : 0 ≤ most) (h1 : most ≤ 1000) :
    Calls Tryd.prog 68 #[.pointer (some ⟨g, 0, none⟩), .int .i64 most, .func (.func 67) #[] #[]] w (ListP w g q (lstX most s) (lstE most s)) := by
  have hglt := h.lt
  have kA : Keep (fun _ => False) w (w.alloc (.cells #[.slice none 0 0] 26)) := (Keep.refl _ w).alloc _
  have C := Lib.hid (count_q g q s most _ (h.kept kA (fun h => h) (fun h => h)) hb)
  have hVm := cntV_le most s h0
  have hsl := Nat.le_trans (cnt_len most s) hb
  obtain ⟨xs0, hxs0⟩ : ∃ xs0, Hid (lstX most s = xs0) := ⟨_, rfl⟩
  obtain ⟨st0, hst0⟩ : ∃ st0, Hid (lstE most s = st0) := ⟨_, rfl⟩
  rw [hxs0.out, hst0.out]
  unfold lstX at hxs0
  unfold lstE at hst0
  generalize cntV most s = V at *
  generalize cntS most s = s1 at *
  refine (callsIn_wide (n := 3)).1 ?_
  refine callsIn_of_wp_marks Tryd.func68 rfl trivial ?_ rfl
  simp only [Tryd.ntmps68, List.size_toArray, List.length_cons, List.length_nil, Nat.reduceAdd, Nat.reduceSub, Array.replicate_succ, Array.replicate_zero, List.push_toArray, List.append_toArray, List.nil_append, List.cons_append]
  gi_wp2_with (first
    | (refine ⟨trivial, ?_⟩; gi_at_call 87; refine (callsIn_wide.2 C.out).mono ?_; rintro e w1 ⟨rfl, hr, hk⟩)
    | (refine ⟨trivial, ?_⟩; gi_at_call 88; refine (callsIn_wide.2 (thingsT_any g _ _ _ w1)).mono ?_; rintro e w2 ⟨rfl, rfl⟩))
  have hz : (w.alloc (.cells #[.slice none 0 0] 26)).heap.size = w.heap.size + 1 := by simp
  have hsz1 : w.heap.size + 1 ≤ w1.heap.size := by have := hk.size; rw [hz] at this; exact this
  have hbox1 : w1.heap[w.heap.size]? = some (.cells #[.slice none 0 0] 26 (0, 0)) := (hk.block _ (by rw [hz]; omega) (by omega)).trans (World.alloc_heap_new w _)
  obtain ⟨W0, hW0⟩ : ∃ W0, (((w1.alloc (.cells #[.pointer (some ⟨g, 0, none⟩)] 107)).alloc (.cells #[.int .i64 V] 3)).alloc (.cells #[.func (.func 67) #[] #[]] 111)) = W0 := ⟨_, rfl⟩
  have hk0 : Keep (fun _ => False) w1 W0 := by rw [← hW0]; exact (((Keep.refl _ w1).alloc _).alloc _).alloc _
  have hz0 : W0.heap.size = w1.heap.size + 1 + 1 + 1 := by rw [← hW0]; simp
  have hc0 : W0.heap[w1.heap.size]? = some (.cells #[.pointer (some ⟨g, 0, none⟩)] 107 (0, 0)) := by
    rw [← hW0, Below.heap_alloc _ _ _ (by simp; omega), Below.heap_alloc _ _ _ (by simp)]
    exact World.alloc_heap_new w1 _
  have hc1 : W0.heap[w1.heap.size + 1]? = some (.cells #[.int .i64 V] 3 (0, 0)) := by
    rw [← hW0, Below.heap_alloc _ _ _ (by simp)]
    have := World.alloc_heap_new (w1.alloc (.cells #[.pointer (some ⟨g, 0, none⟩)] 107)) (.cells #[.int .i64 V] 3)
    rwa [World.size_alloc] at this
  have hc2 : W0.heap[w1.heap.size + 1 + 1]? = some (.cells #[.func (.func 67) #[] #[]] 111 (0, 0)) := by
    rw [← hW0]
    have := World.alloc_heap_new ((w1.alloc (.cells #[.pointer (some ⟨g, 0, none⟩)] 107)).alloc (.cells #[.int .i64 V] 3)) (.cells #[.func (.func 67) #[] #[]] 111)
    rwa [World.size_alloc, World.size_alloc] at this
  rw [hW0]
  clear hW0
  have hw : LW w W0 g q w.heap.size w1.heap.size := ⟨hglt, hql, ⟨Nat.le_refl _, by omega⟩, by omega⟩
  have hsz : w.heap.size ≤ W0.heap.size := by omega
  have hL0 : LI w W0 g q w.heap.size w1.heap.size V s1 [] W0 := ⟨hr.kept hk0 (fun h => h) (fun h => h), ⟨_, (hk0.block _ (lt_of_block hbox1) (fun h => h)).trans hbox1, World.ownsRow_nil _ _ _ _, NB.nil _⟩, hc0, hc1, hc2, ((kA.mono (fun _ _ h => h.elim)).trans hk (fun _ _ h => h)).trans hk0 (fun _ _ h => h.elim), Nat.le_refl _⟩
  have hst : ∀ st pre, Stands W0.heap.size (LI w W0 g q w.heap.size w1.heap.size V st pre) := fun st pre => LI.stands hw hsz
  refine range_law rfl (by omega) (gf := 97) (lb := #[.pointer (some ⟨w1.heap.size + 1, 0, none⟩), .pointer (some ⟨w1.heap.size + 1 + 1, 0, none⟩), .pointer (some ⟨w1.heap.size, 0, none⟩)]) rfl trivial (enters_of Tryd.func97 (by kernel_rfl) rfl)
    (encs := fun x : Txt => #[.string (ba x)]) (fun _ => rfl) (IT w W0 g q w.heap.size w1.heap.size V s1) (MT w W0 g q w.heap.size w1.heap.size V s1) (DT w W0 g q w.heap.size w1.heap.size V s1)
    (fun pre X k o o' a b c h => ⟨h.1, h.2.1, hst _ _ X k o o' a b c h.2.2⟩) (fun pre x X k o o' a b c h => ⟨h.1, h.2.1, h.2.2.1, hst _ _ X k o o' a b c h.2.2.2⟩) (fun xs X k o o' a b c h => ⟨hst _ _ X k o o' a b c h.1, h.2⟩)
    (fun o o' => ⟨Nat.zero_le _, rfl, hL0.kept (((Keep.refl (fun _ => False) W0).alloc o).alloc o') (fun h => h) (fun h => h) (fun h => h) (fun h => h) (fun h => h) (fun h => h) (fun _ _ h => h.elim) (fun _ _ _ _ h => h)⟩)
    (fun x => { tmps := #[.pointer (some ⟨g, 0, none⟩), .int .i64 most, .func (.func 67) #[] #[], undef, undef, undef, .slice none 0 0, .pointer (some ⟨w.heap.size, 0, none⟩), .string (ba x), .pointer (some ⟨g, 0, none⟩), .pointer (some ⟨g, 0, none⟩), .int .i64 most, .int .i64 V, .func (.func 67) #[] #[], iterT w1.heap.size, .string (ba x), undef, undef, undef, undef, undef, undef, undef, undef, undef], defers := [] }) ?assign ?body ?iter ?done
  case assign =>
    intro l x W K hK
    gi_wp2
    exact hK
  case iter =>
    intro l W BK hBK hY hI hB
    exact iter_T w W0 g q w.heap.size w1.heap.size V s1 hw hsz (by omega) hsl l BK hBK hY W hI hB
  case body =>
    rintro l pre x W ⟨hlt, hpre, hx, hL⟩
    obtain ⟨v, hvc, hvf, hvo, hvn, hvb⟩ := hL.cellBox
    replace hpre := Lib.hid hpre
    replace hx := Lib.hid hx
    gi_wp2_with (gi_at_builtin; refine wpListIn_append_str _ rfl _ _ _ rfl strsT v (pre.map ba) rfl (hvo.alloc _) (W.heap.size + 1) (some ⟨W.heap.size, 0, none⟩) 1 1 [ba x] rfl rfl (strs_one W _ _) (by simp; omega) ?_; intro v' Y ho' hg hf; obtain ⟨hYc, hYf⟩ := box_grown hvb hvn (by omega) hg; obtain ⟨A', c', rfl, _⟩ := id ho'.shape)
    have P := hL.put hw hsz hvb hvo hvn hg ho' hf
    have hlen : (pre.map ba ++ [ba x]).length = pre.length + 1 := by simp
    have hlen' : (pre ++ [x]).length = pre.length + 1 := by simp
    rw [hlen] at P
    rw [← hz0]
    refine ⟨P.2, by rw [hlen']; omega, ?_, ?_⟩
    · rw [hlen', lstN_succ, ← hpre.out, ← hx.out]
    · rw [hlen']; exact P.1
  case done =>
    rintro D xs X hD ⟨hL, hxs⟩ hK
    obtain ⟨v, hvc, hvf, hvo, hvn, hvb⟩ := hL.cellBox
    have hc := hL.rd.cell1
    have kD := keep_put X D (.deferred none)
    have hr2 := hL.rd.kept kD (by omega) (by omega)
    have hkF := hL.keep.trans kD (fun i hi e => by omega)
    have hoD := hvo.kept kD (fun i hi e => by
      obtain ⟨cs, e2⟩ := hvo.cells_ hi
      rw [e, hK] at e2
      cases e2)
    generalize lstS V s1 = st at *
    obtain rfl := hst0.out
    by_cases hbad : st.2 = true
    · rw [hbad] at hc
      gi_wp2
      refine ⟨by simp, .inl ⟨_, _, rfl, run_takeDeferred hK, ?_⟩⟩
      refine ⟨_, results_tmp rfl _ _ _, ?_⟩
      have hx0 := hxs0.out
      rw [if_pos hbad] at hx0
      subst hx0
      exact ⟨none, 0, rfl, Strs.nil, Nat.le_refl _, (fun a h => nomatch h), hr2, hkF⟩
    · have hfalse : st.2 = false := by simpa using hbad
      rw [hfalse] at hc
      have hxs := hxs hfalse
      gi_wp2
      refine ⟨by simp, .inl ⟨_, _, rfl, run_takeDeferred hK, ?_⟩⟩
      refine ⟨_, results_tmp rfl _ _ _, ?_⟩
      have hx0 := hxs0.out
      rw [if_neg hbad, ← hxs] at hx0
      subst hx0
      obtain ⟨A, c, rfl, hlc, _, hS, _⟩ := hoD.shape
      simp only [List.length_map] at hlc ⊢
      refine ⟨A, c, rfl, hS, hlc, fun a ha => ?_, hr2, hkF⟩
      subst ha
      have := hvn a.block (by simp [Value.ownBlock])
      omega
end Go.Proofs.YtklpebfkgdklmaaDoor
