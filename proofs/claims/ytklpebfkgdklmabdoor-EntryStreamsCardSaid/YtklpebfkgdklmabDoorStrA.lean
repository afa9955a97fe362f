/-
  The state of the law on streams: the log, the ends, the wanted addresses, as they lie in memory.
-/
import Derived.Test.YtklpebfkgdklmabDoorStrMath
import Derived.Test.YtklpebfkgdklmabDoorRowC
import Derived.Test.YtklpebfkgdklmabDoorMapV
import Derived.Test.YtklpebfkgdklmabDoorSpeak7
namespace Go.Proofs.YtklpebfkgdklmabDoor
open Go.RowKit Go.Maps

theorem i64_and7 (n : Int) : bits .and .i64 n 7 = n % 8 := by
  have h127 : (BitVec.ofInt 64 7).toNat = 2 ^ 3 - 1 := by decide
  have key : (BitVec.ofInt 64 n &&& BitVec.ofInt 64 7).toNat = (n % ((2 ^ 64 : Nat) : Int)).toNat % 2 ^ 3 := by
    rw [BitVec.toNat_and, BitVec.toNat_ofInt, h127, Nat.and_two_pow_sub_one_eq_mod]
  show IntKind.i64.wrap ((BitVec.ofInt 64 n &&& BitVec.ofInt 64 7).toNat : Nat) = n % 8
  rw [key, IntKind.wrap_i64]
  omega
def encL (x : TLog) : List Value := [.int .i64 x.kind, .int .i64 x.client, .int .i64 x.birth, .int .i64 x.number, .int .i64 x.stream, .int .i64 x.back, .slice none 0 0]
def encI (z : Int) : List Value := [.int .i64 z]
theorem encL_len (x : TLog) : (encL x).length = 7 := rfl
theorem encI_len (z : Int) : (encI z).length = 1 := rfl
theorem encL_one (x : TLog) : ∀ u ∈ encL x, u.oneCell' = true := by
  intro u hu
  simp only [encL, List.mem_cons, List.not_mem_nil, or_false] at hu
  rcases hu with rfl | rfl | rfl | rfl | rfl | rfl | rfl <;> rfl
theorem encI_one (z : Int) : ∀ u ∈ encI z, u.oneCell' = true := by
  intro u hu
  simp only [encI, List.mem_cons, List.not_mem_nil, or_false] at hu
  subst hu
  rfl
theorem ctLog : Ct Tryd.prog 38 26 7 72 := 
  ⟨Tryd.underlying38, (Tryd.prog.info? 26).get (by kernel_rfl), .agg #[.int .i64 0, .int .i64 0, .int .i64 0, .int .i64 0, .int .i64 0, .int .i64 0, .slice none 0 0], by kernel_rfl, by kernel_rfl, by kernel_rfl, by kernel_rfl, by kernel_rfl⟩
theorem ctInt : Ct Tryd.prog 37 3 1 8 := 
  ⟨Tryd.underlying37, (Tryd.prog.info? 3).get (by kernel_rfl), .int .i64 0, by kernel_rfl, by kernel_rfl, by kernel_rfl, by kernel_rfl, by kernel_rfl⟩
theorem wf8 {x : Int} (h : 0 ≤ x ∧ x ≤ 7) : (Lit.int .i64 x).wf = true := by
  have h1 : IntKind.i64.min = -9223372036854775808 := rfl
  have h2 : IntKind.i64.max = 9223372036854775807 := rfl
  simp only [Lit.wf, Bool.and_eq_true, decide_eq_true_eq, h1, h2]
  omega
/-- The ends of streams, as the map has them. -/
def endF (r : List Int) : Lit → Option Value
  | .int .i64 s => if prevR r s = -1 then none else some (.int .i64 (prevR r s))
  | _ => none
theorem endF_upd (r : List Int) (x : Int) (kl : Lit) : upd (endF r) (.int .i64 x) (some (.int .i64 (r.length : Int))) kl = endF (x :: r) kl := by
  by_cases e : kl = .int .i64 x
  · subst e
    rw [upd_same]
    have h1 : prevR (x :: r) x = (r.length : Int) := by simp [prevR]
    simp only [endF, h1]
    rw [if_neg (by omega)]
  · rw [upd_other _ e]
    unfold endF
    split
    · next s =>
      have hs : x ≠ s := fun h => e (by rw [h])
      have h1 : prevR (x :: r) s = prevR r s := by simp [prevR, hs]
      rw [h1]
    · rfl
/-- Where the law's things lie. -/
structure EW (w3 : World) (bL bW mb bq br : Nat) : Prop where
  q : bq < w3.heap.size
  r : br < w3.heap.size
  qr : bq ≠ br
  L : w3.heap.size ≤ bL
  W : w3.heap.size ≤ bW
  m : w3.heap.size ≤ mb
  LW : bL ≠ bW
  Lm : bL ≠ mb
  Wm : bW ≠ mb
/-- The law's things: the log of rl, the ends of rm, what is wanted of rw. -/
structure ES (w w3 : World) (bL bW mb bq br : Nat) (q which : Int) (rl rm rw_ : List Int) (X : World) : Prop where
  lg : ∃ v, X.heap[bL]? = some (.cells #[v] 38 (0, 0)) ∧ OwnC 26 7 encL X v (logR rl) ∧ NB w3 v
  wt : ∃ v, X.heap[bW]? = some (.cells #[v] 37 (0, 0)) ∧ OwnC 3 1 encI X v (wantR q rw_) ∧ NB w3 v
  mp : MapV Tryd.prog 3 X mb rm.length (endF rm)
  cq : X.heap[bq]? = some (.cells #[.int .i64 which] 3 (0, 0))
  cr : X.heap[br]? = some (.cells #[.bool false] 4 (0, 0))
  keep : KF w X
section
variable {w w3 : World} {bL bW mb bq br : Nat} {q which : Int} {rl rm rw_ : List Int} {X Y Z : World}
theorem ES.kept {S : Nat → Prop} (h : ES w w3 bL bW mb bq br q which rl rm rw_ X) (k : Keep S X Y) (h1 : ¬ S bL) (h2 : ¬ S bW) (h3 : ¬ S mb) (h4 : ¬ S bq) (h5 : ¬ S br) (h6 : ∀ i, i < w.heap.size → ¬ S i)
    (h7 : ∀ i cs t, X.heap[i]? = some (.cells cs t (0, 0)) → S i → t ≠ 26 ∧ t ≠ 3) : ES w w3 bL bW mb bq br q which rl rm rw_ Y := by
  obtain ⟨v, e1, e2, e3⟩ := h.lg
  obtain ⟨u, f1, f2, f3⟩ := h.wt
  refine ⟨⟨v, (k.block _ (lt_of_block e1) h1).trans e1, e2.kept k (fun i hi hs => ?_), e3⟩, ⟨u, (k.block _ (lt_of_block f1) h2).trans f1, f2.kept k (fun i hi hs => ?_), f3⟩, h.mp.kept k h3, (k.block _ (lt_of_block h.cq) h4).trans h.cq, (k.block _ (lt_of_block h.cr) h5).trans h.cr, Keep.trans h.keep k (fun i hi hs => h6 i hi hs)⟩
  · obtain ⟨cs, e⟩ := e2.cells_ hi
    exact (h7 i cs _ e hs).1 rfl
  · obtain ⟨cs, e⟩ := f2.cells_ hi
    exact (h7 i cs _ e hs).2 rfl
theorem ES.keptF (h : ES w w3 bL bW mb bq br q which rl rm rw_ X) (k : KF X Y) : ES w w3 bL bW mb bq br q which rl rm rw_ Y :=
  h.kept k (fun h => h) (fun h => h) (fun h => h) (fun h => h) (fun h => h) (fun _ _ h => h) (fun _ _ _ _ h => h.elim)
theorem ES.stands (hw : EW w3 bL bW mb bq br) {b : Nat} (hb : bL < b ∧ bW < b ∧ mb < b ∧ w3.heap.size ≤ b) (hw3 : w.heap.size ≤ w3.heap.size) : Stands b (ES w w3 bL bW mb bq br q which rl rm rw_) := fun X i o o' hi ho hc h => by
  have := hw.q
  have := hw.r
  refine h.kept (keep_put X i o') (by omega) (by omega) (by omega) (by omega) (by omega) (fun j hj => by omega) (fun j cs t hj hji => ?_)
  subst hji
  rw [ho] at hj
  injection hj with hj
  rw [hj] at hc
  cases hc
/-- One entry more is appended to the log. -/
theorem ES.log (hw : EW w3 bL bW mb bq br) (hw3 : w.heap.size ≤ w3.heap.size) {v v' : Value} {x : Int} {l : List TLog} (h : ES w w3 bL bW mb bq br q which rl rm rw_ X) (hl : logR (x :: rl) = logR rl ++ l) (hv : X.heap[bL]? = some (.cells #[v] 38 (0, 0))) (hn : NB w3 v) (hov : OwnC 26 7 encL X v (logR rl)) {o : Obj}
    (ho : OwnC 26 7 encL Y v' (logR rl ++ l)) (hg : (X.alloc o).grownBy Y v.ownBlock) (hf : v'.ownBlock = v.ownBlock ∨ v'.ownBlock = some (X.alloc o).heap.size) :
    ES w w3 bL bW mb bq br q which (x :: rl) rm rw_ (Y.setCell ⟨bL, 0, none⟩ v') := by
  have hL := hw.L
  have hW := hw.W
  have hm := hw.m
  have hq := hw.q
  have hr := hw.r
  have hXs : X.heap.size < (X.alloc o).heap.size := by simp
  have kY : Keep (fun i => v.ownBlock = some i) X Y := (((Keep.refl _ X).alloc o).trans (Keep.of_grown hg) (fun _ _ h => h))
  obtain ⟨v0, e1, e2, e3⟩ := h.lg
  obtain ⟨u, f1, f2, f3⟩ := h.wt
  have bY : Y.heap[bL]? = some (.cells #[v] 38 (0, 0)) := (kY.block _ (lt_of_block hv) (fun e => hov.ne_ hv (by decide) e)).trans hv
  have hv'L : v'.ownBlock ≠ some bL := ho.ne_ bY (by decide)
  have k2 : Keep (fun i => v.ownBlock = some i ∨ i = bL) X (Y.setCell ⟨bL, 0, none⟩ v') := (kY.mono (fun _ _ h => .inl h)).setCell (p := ⟨bL, 0, none⟩) (.inr (.inr rfl)) v'
  have hsb : ∀ i, v.ownBlock = some i → w3.heap.size ≤ i := hn
  have nmap : v.ownBlock ≠ some mb := fun e => by
    obtain ⟨cs, e'⟩ := hov.cells_ e
    obtain ⟨es, cl, e2'⟩ := h.mp.heap
    rw [e'] at e2'
    cases e2'
  refine ⟨⟨v', one_setCell bY, ?_, ?_⟩, ⟨u, (k2.block _ (lt_of_block f1) ?_).trans f1, f2.kept k2 (fun i hi hs => ?_), f3⟩, h.mp.kept k2 ?_, (k2.block _ (lt_of_block h.cq) ?_).trans h.cq, (k2.block _ (lt_of_block h.cr) ?_).trans h.cr, Keep.trans h.keep k2 (fun i hi hs => ?_)⟩
  · rw [hl]
    exact ho.kept ((Keep.refl (fun i => i = bL) Y).setCell (p := ⟨bL, 0, none⟩) (.inr rfl) v') (fun k hk he => hv'L (he ▸ hk))
  · intro i hi
    rcases hf with hf | hf
    · exact hn i (hf ▸ hi)
    · rw [hf] at hi
      injection hi with hi
      have := lt_of_block hv
      omega
  · rintro (e | e)
    · exact hov.ne_ f1 (by decide) e
    · exact hw.LW e.symm
  · rcases hs with hs | hs
    · obtain ⟨c1, d1⟩ := hov.cells_ hs
      obtain ⟨c2, d2⟩ := f2.cells_ hi
      rw [d1] at d2
      injection d2 with d2
      injection d2 with _ d2
      exact absurd d2 (by decide)
    · subst hs
      exact f2.ne_ hv (by decide) hi
  · rintro (e | e)
    · exact nmap e
    · exact hw.Lm e.symm
  · rintro (e | e)
    · have := hsb _ e; omega
    · omega
  · rintro (e | e)
    · have := hsb _ e; omega
    · omega
  · rcases hs with hs | hs
    · have := hsb _ hs; omega
    · omega
/-- One address more is wanted. -/
theorem ES.want (hw : EW w3 bL bW mb bq br) (hw3 : w.heap.size ≤ w3.heap.size) {v v' : Value} {r' : List Int} (h : ES w w3 bL bW mb bq br q which rl rm rw_ X) (hv : X.heap[bW]? = some (.cells #[v] 37 (0, 0)))
    (ho : OwnC 3 1 encI Y v' (wantR q r')) (hk : KF X Y) (hn : NB X v') :
    ES w w3 bL bW mb bq br q which rl rm r' (Y.setCell ⟨bW, 0, none⟩ v') := by
  have hL := hw.L
  have hW := hw.W
  have hm := hw.m
  have hq := hw.q
  have hr := hw.r
  obtain ⟨v0, e1, e2, e3⟩ := h.lg
  have bY : Y.heap[bW]? = some (.cells #[v] 37 (0, 0)) := (hk.block _ (lt_of_block hv) (fun h => h)).trans hv
  have hX := lt_of_block hv
  have k2 : Keep (fun i => i = bW) X (Y.setCell ⟨bW, 0, none⟩ v') := Keep.setCell (S := fun i => i = bW) (Keep.mono hk (fun _ _ h => h.elim)) (p := ⟨bW, 0, none⟩) (.inr rfl) v'
  refine ⟨⟨v0, (k2.block _ (lt_of_block e1) hw.LW).trans e1, e2.kept k2 (fun i hi hs => ?_), e3⟩, ⟨v', one_setCell bY, ?_, fun i hi => by have := hn i hi; omega⟩, h.mp.kept k2 (fun e => hw.Wm e.symm), (k2.block _ (lt_of_block h.cq) (by omega)).trans h.cq, (k2.block _ (lt_of_block h.cr) (by omega)).trans h.cr, Keep.trans h.keep k2 (fun i hi hs => by omega)⟩
  · subst hs
    exact e2.ne_ hv (by decide) hi
  · exact ho.kept ((Keep.refl (fun i => i = bW) Y).setCell (p := ⟨bW, 0, none⟩) (.inr rfl) v') (fun k hk2 he => by have := hn k hk2; omega)
/-- One end more. -/
theorem ES.ends (hw : EW w3 bL bW mb bq br) (hw3 : w.heap.size ≤ w3.heap.size) {x : Int} (h : ES w w3 bL bW mb bq br q which rl rm rw_ X) (hm' : MapV Tryd.prog 3 Y mb (rm.length + 1) (upd (endF rm) (.int .i64 x) (some (.int .i64 (rm.length : Int))))) (ht : X.mapTurned Y mb) :
    ES w w3 bL bW mb bq br q which rl (x :: rm) rw_ Y := by
  have hL := hw.L
  have hW := hw.W
  have hm := hw.m
  have hq := hw.q
  have hr := hw.r
  have k := Keep.turned ht
  obtain ⟨v, e1, e2, e3⟩ := h.lg
  obtain ⟨u, f1, f2, f3⟩ := h.wt
  obtain ⟨es, cl, hmb⟩ := h.mp.heap
  refine ⟨⟨v, (k.block _ (lt_of_block e1) hw.Lm).trans e1, e2.kept k (fun i hi hs => ?_), e3⟩, ⟨u, (k.block _ (lt_of_block f1) hw.Wm).trans f1, f2.kept k (fun i hi hs => ?_), f3⟩, hm'.congr (fun _ kl _ => endF_upd rm x kl), (k.block _ (lt_of_block h.cq) (by omega)).trans h.cq, (k.block _ (lt_of_block h.cr) (by omega)).trans h.cr, Keep.trans h.keep k (fun i hi hs => by omega)⟩
  · subst hs
    obtain ⟨cs, e⟩ := e2.cells_ hi
    rw [e] at hmb
    cases hmb
  · subst hs
    obtain ⟨cs, e⟩ := f2.cells_ hi
    rw [e] at hmb
    cases hmb
theorem ES.skip {x : Int} (h : ES w w3 bL bW mb bq br q which rl rm rw_ X) (hx : x ≠ q) : ES w w3 bL bW mb bq br q which rl rm (x :: rw_) X := by
  have e : wantR q (x :: rw_) = wantR q rw_ := by simp [wantR, hx]
  exact ⟨h.lg, by rw [e]; exact h.wt, h.mp, h.cq, h.cr, h.keep⟩
end
end Go.Proofs.YtklpebfkgdklmabDoor
