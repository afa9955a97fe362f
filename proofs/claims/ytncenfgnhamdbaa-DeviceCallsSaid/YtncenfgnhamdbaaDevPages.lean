/-
  WALK of a device's Pages.
-/
import Derived.Test.YtncenfgnhamdbaaDevIter
import Derived.Test.YtncenfgnhamdbaaDevOps
import Derived.Stop.RegionWithIn
namespace Go.Proofs.Ytncenfgnhamdbaa
open Go.RowKit Go.Shelf
attribute [local go_sem] Oper.semAt_some

theorem PS.snoc {w X X5 X9 : World} {g B ab : Nat} {v : Value} {qs : List PV} {d : Dv} {pre : List Dpg} {x : Dpg} {va v' : Value} {rs : List RV} {A5 : Option Addr} {n5 c5 : Nat} {o : Obj} (h : PS w g v qs d B ab pre X) (hlt : pre.length < d.pages.length)
    (e1 : X.heap[ab]? = some (.cells #[va] 39 (0, 0))) (e2 : OwnC 31 1 encR X va rs) (e3 : NB w va) (e4 : Rws w X rs (lsOf pre)) (k5 : KF X X5) (o5 : Own 5 X5 (.slice A5 n5 c5) x.2.by_) (nb5 : NB X (.slice A5 n5 c5))
    (hg : (X5.alloc o).grownBy X9 va.ownBlock) (o9 : OwnC 31 1 encR X9 v' (rs ++ [⟨A5, n5, c5⟩])) (hf : v'.ownBlock = va.ownBlock ∨ v'.ownBlock = some (X5.alloc o).heap.size) (b : Nat) :
    PS w g v qs d B ab (pre ++ [x]) (X9.setCell ⟨ab, 0, none⟩ v') ∧ KeepsFrom b X (X9.setCell ⟨ab, 0, none⟩ v') := by
  have hX := h.keep.size
  have k6 : KF X (X5.alloc o) := Keep.alloc k5 o
  have k9 : Keep (fun i => va.ownBlock = some i) X X9 := Keep.grown (Keep.mono k6 (fun _ _ h => h.elim)) hg (fun i e _ => e)
  have b9 : X9.heap[ab]? = some (.cells #[va] 39 (0, 0)) := (k9.block _ (lt_of_block e1) (e2.ne_ e1 (by decide))).trans e1
  have kS : Keep (fun i => va.ownBlock = some i ∨ i = ab) X (X9.setCell ⟨ab, 0, none⟩ v') := (k9.mono (fun _ _ h => .inl h)).setCell (p := ⟨ab, 0, none⟩) (.inr (.inr rfl)) v'
  have k59 : Keep (fun i => va.ownBlock = some i) X5 X9 := Keep.grown ((Keep.refl _ X5).alloc o) hg (fun i e _ => e)
  have k5S : Keep (fun i => va.ownBlock = some i ∨ i = ab) X5 (X9.setCell ⟨ab, 0, none⟩ v') := (k59.mono (fun _ _ h => .inl h)).setCell (p := ⟨ab, 0, none⟩) (.inr (.inr rfl)) v'
  have hva : ∀ i, va.ownBlock = some i → i < X.heap.size := fun i hi => by
    obtain ⟨cs, e⟩ := e2.cells_ hi
    exact lt_of_block e
  have hab := lt_of_block e1
  have hnew := h.new
  refine ⟨⟨h.dev.kept kS (fun i hi hs => ?_), (kS.block _ (lt_of_block h.box) ?_).trans h.box, ⟨v', _, one_setCell b9, o9.kept (Keep.setCell (S := fun i => i = ab) (Keep.refl _ X9) (p := ⟨ab, 0, none⟩) (.inr rfl) v') (by rintro i hi rfl; exact o9.ne_ b9 (by decide) hi), ?_, ?_⟩, Keep.trans h.keep kS (fun i hi hs => ?_), by rw [List.length_append]; exact hlt, h.new, h.low⟩, keepsFrom_of kS (fun i hi => ?_) b⟩
  · have := h.low i hi
    rcases hs with hs | hs
    · have := e3 i hs
      omega
    · omega
  · rintro (hs | hs)
    · exact e2.ne_ h.box (by decide) hs
    · exact hnew.2.2 hs
  · intro i hi
    rcases hf with hf | hf
    · exact e3 i (hf ▸ hi)
    · rw [hf] at hi
      injection hi with hi
      have := k6.size
      omega
  · have hl : lsOf (pre ++ [x]) = lsOf pre ++ [x.2.by_] := by simp [lsOf]
    rw [hl]
    refine (e4.kept kS (fun r hr i hi hs => ?_)).snoc (o5.kept k5S (fun i hi hs => ?_)) (nb5.older hX)
    · obtain ⟨l, ho, _⟩ := e4.own hr
      rcases hs with hs | hs
      · obtain ⟨cs, e⟩ := e2.cells_ hs
        exact ho.ne_ e (by decide) hi
      · subst hs
        exact ho.ne_ e1 (by decide) hi
    · have h5 := nb5 i hi
      rcases hs with hs | hs
      · have := hva i hs
        omega
      · omega
  · rcases hs with hs | hs
    · have := e3 i hs
      omega
    · omega
  · rcases hi with hi | hi
    · obtain ⟨cs, e⟩ := e2.cells_ hi
      exact ⟨_, _, _, e⟩
    · subst hi
      exact ⟨_, _, _, e1⟩
/-- What Pages has given, in the caller's words. -/
theorem PS.rows {w X : World} {rs : List RV} {ls : List (List UInt8)} {A : Option Addr} {n c : Nat} (o : OwnC 31 1 encR X (.slice A n c) rs) (hn : NB w (.slice A n c)) (hr : Rws w X rs ls) : n = ls.length ∧ n ≤ c ∧ c ≤ maxLen ∧ RdS X w.heap.size X.heap.size A ls := by
  obtain ⟨A', c', e, h1, h2, hR, hA⟩ := o.shape encR_len
  injection e with e e2 e3
  subst e e2 e3
  refine ⟨hr.1, h1, h2, fun j l hl => ?_⟩
  have hlt : j < rs.length := by rw [hr.1]; exact (List.getElem?_eq_some_iff.1 hl).1
  obtain ⟨b, oo, rfl, hb, hcell⟩ := hR j _ (List.getElem?_eq_getElem hlt)
  obtain ⟨ho, hnb⟩ := hr.2 j _ l (List.getElem?_eq_getElem hlt) hl
  generalize rs[j] = r at *
  have hc := hcell 0 _ rfl
  rw [Nat.mul_one, Nat.add_zero] at hc
  obtain ⟨A2, c2, e, q1, q2, q3, q4⟩ := ho.shape
  unfold RV.val at hc e hnb
  injection e with e4 e5 e6
  rw [e4, e5, e6] at hc
  refine ⟨b, oo, A2, c2, rfl, hn b rfl, hb, hc, q1, q2, q3, fun a ha _ => hnb a.block ?_⟩
  rw [e4, ha]
  rfl
theorem stepIn_append_c {α : Type} {K : Nat} {enc : α → List Value} {F : Fence} {m : Nat} {P : Program} (w : World) {ops : Array Oper} {o : Oper} {a : Act} {Kp : Act → World → Prop} {Q : Exit → Act → World → Prop} {N : Prop} (hgd : o.guard = none) (s x : Operand) (T : TypeId)
    (ho : o.op = .call { callee := .builtin .append, args := #[s, x], argTypes := #[T, T] }) {E : TypeId} {by_ : Nat} (U : Ct P T E K by_) (hK : ∀ x, (enc x).length = K) (h1 : ∀ x, ∀ u ∈ enc x, u.oneCell' = true) (hK0 : 0 < K) (v : Value) (es : List α) (hs : a.eval s = v) (hown : OwnC E K enc w v es) (B : Nat) (A : Option Addr) (n c : Nat) (fs : List α)
    (hx : a.eval x = .slice A n c) (hn : n = fs.length) (hr : RdC K enc w B A fs) (hb : (es.length + fs.length) * by_ ≤ 140737488355328) (hb2 : es.length + fs.length ≤ 1000000000)
    (h : ∀ v' w', OwnC E K enc w' v' (es ++ fs) → w.grownBy w' v.ownBlock → (v'.ownBlock = v.ownBlock ∨ v'.ownBlock = some w.heap.size) → Kp (a.put o.dst v') w') : if Region.wanted o (yielded ops a.tmps) = true then Oper.wpIn F m P o a w Kp Q else N := by
  have hw : Region.wanted o (yielded ops a.tmps) = true := by simp [Region.wanted, hgd]
  rw [if_pos hw]
  obtain ⟨v', w', hrun, h2, h3, h4⟩ := run_append_c (P := P) w U hK h1 hK0 o.type v es hown B A c fs n hn hr hb hb2
  unfold Oper.wpIn
  refine ⟨?_, ?_⟩
  · simp [Oper.about, ho, resolve, Target.leads, Sem.run_pure]
  · rw [Oper.semAt_plain F _ _ (by rw [ho]; intro c hc'; cases hc')]
    simp [execOp, ho, resolve, invoke, builtin, hs, hx, hrun, Result.andThen]
    exact h _ _ h2 h3 h4
theorem wholes_fn (g : Nat) (w : World) : Calls Try.prog 28 #[.pointer (some ⟨g, 0, none⟩)] w fun e w' => e = .returned (.func (.func 29) #[] #[.pointer (some ⟨w.heap.size, 0, none⟩)]) ∧ w.alloc (.cells #[.pointer (some ⟨g, 0, none⟩)] 24) = w' := by
  go_enter Try.func28, Try.ntmps28
  go_wp2
  go_ret
  exact ⟨rfl, rfl⟩
set_option maxRecDepth 100000 in
set_option maxHeartbeats 2000000 in
theorem dpages_any {g : Nat} {v : Value} {qs : List PV} {d : Dv} (w : World) (h : DevAt w g v qs d) :
    Calls Try.prog 19 #[.pointer (some ⟨g, 0, none⟩)] w fun e w' => ∃ A n c, e = .returned (.slice A n c) ∧ (n = (wholes d.pages).length ∧ n ≤ c ∧ c ≤ maxLen ∧ RdS w' w.heap.size w'.heap.size A (wholes d.pages)) ∧ KF w w' := by
  obtain ⟨W0, hW0⟩ : ∃ W0, (w.alloc (.cells #[.slice none 0 0] 39)).alloc (.cells #[.pointer (some ⟨g, 0, none⟩)] 24) = W0 := ⟨_, rfl⟩
  have k0 : KF w W0 := by rw [← hW0]; exact ((KF.refl w).alloc _).alloc _
  have hz0 : W0.heap.size = w.heap.size + 2 := by rw [← hW0]; simp
  have P0 : PS w g v qs d (w.heap.size + 1) w.heap.size [] W0 := by
    refine ⟨h.far k0, ?_, ⟨.slice none 0 0, [], ?_, ⟨by simp, .inl ⟨rfl, rfl⟩⟩, NB.nil _, Rws.nil _ _⟩, k0, Nat.zero_le _, ⟨Nat.le_refl _, by omega, by omega⟩, fun i hi => h.foot_lt hi⟩
    · rw [← hW0]
      have := World.alloc_heap_new (w.alloc (.cells #[.slice none 0 0] 39)) (.cells #[.pointer (some ⟨g, 0, none⟩)] 24)
      rwa [World.size_alloc] at this
    · rw [← hW0, Below.heap_alloc _ _ _ (by simp)]
      exact World.alloc_heap_new w _
  have hlen := h.len
  have HD := Lib.hid h
  have HW0 := Lib.hid hW0
  clear h hW0
  refine (callsIn_wide (n := 3)).1 ?_
  refine callsIn_of_wp_marks Try.func19 rfl trivial ?_ rfl
  simp only [Try.ntmps19, List.size_toArray, List.length_cons, List.length_nil, Nat.reduceAdd, Nat.reduceSub, Array.replicate_succ, Array.replicate_zero, List.push_toArray, List.append_toArray, List.nil_append, List.cons_append]
  gi_wp2_with (refine ⟨trivial, ?_⟩; gi_at_call 28; refine (callsIn_wide.2 (wholes_fn _ _)).mono ?_; rintro e w3 ⟨rfl, rfl⟩)
  have hsw : (w.alloc (.cells #[.slice none 0 0] 39)).heap.size = w.heap.size + 1 := by simp
  have hst : ∀ pre, Stands W0.heap.size (PS w g v qs d (w.heap.size + 1) w.heap.size pre) := fun pre => PS.stands k0.size
  rw [HW0.out]
  refine range_law rfl (by omega) (gf := 29) (lb := #[.pointer (some ⟨w.heap.size + 1, 0, none⟩)]) rfl trivial (enters_of Try.func29 (by kernel_rfl) rfl)
    (encs := fun x : Dpg => #[x.1.e1]) (fun _ => rfl)
    (PS w g v qs d (w.heap.size + 1) w.heap.size) (PM w g v qs d (w.heap.size + 1) w.heap.size) (PD w g v qs d (w.heap.size + 1) w.heap.size)
    hst (fun pre x X i o o' hi ho hc h => ⟨hst pre X i o o' hi ho hc h.1, h.2.1, h.2.2.1.kept (keep_put X i o') (fun j hj e => ?_), h.2.2.2⟩) (fun xs X i o o' hi ho hc h => ⟨h.1, hst xs X i o o' hi ho hc h.2⟩)
    (fun o o' => P0.far (((KF.refl W0).alloc o).alloc o'))
    (fun x => { tmps := #[.pointer (some ⟨g, 0, none⟩), undef, .slice none 0 0, .pointer (some ⟨w.heap.size, 0, none⟩), x.1.e1, .pointer (some ⟨g, 0, none⟩), .func (.func 29) #[] #[.pointer (some ⟨w.heap.size + 1, 0, none⟩)], x.1.e1, undef, undef, undef, undef, undef, undef], defers := [] }) ?assign ?body ?iter ?done
  case assign =>
    intro l x W K hK
    gi_wp2
    exact hK
  case iter =>
    intro l W BK hBK hY hI hB
    exact iter_wholes w g v qs d (w.heap.size + 1) w.heap.size W0.heap.size l BK hBK hY W hI hB
  case body =>
    rintro l pre x X ⟨hP, hlt, how, hsh⟩
    obtain ⟨va, rs, e1, e2, e3, e4⟩ := hP.all
    have HC := Lib.hid fun W (k : KF X W) => clone_any x.1.A x.2.by_ x.1.n x.1.c W how.len (by omega) X.heap.size (how.rd.keepF k (Nat.le_refl _)) k.size
    have FIN := Lib.hid fun A5 n5 c5 X5 X9 o v' (k5 : KF X X5) (o5 : Own 5 X5 (.slice A5 n5 c5) x.2.by_) (nb5 : NB X (.slice A5 n5 c5)) hg (o9 : OwnC 31 1 encR X9 v' (rs ++ [⟨A5, n5, c5⟩])) hf => hP.snoc (o := o) hlt e1 e2 e3 e4 k5 o5 nb5 hg o9 hf W0.heap.size
    have H1 := Lib.hid fun W (k : KF X W) => show W.cell? ⟨w.heap.size, 0, none⟩ = some va from cell_of_one ((k.block _ (lt_of_block e1) (fun h => h)).trans e1)
    have c1 := cell_of_one e1
    have f1 := free_of_one e1
    unfold PV.e1
    have e4l := e4.1
    have hp16 : d.pages.length ≤ 65536 := Nat.le_trans hP.dev.good.room hP.dev.room
    have HG := Lib.hid fun (W W9 : World) (o : Obj) (k : KF X W) (hg : (W.alloc o).grownBy W9 va.ownBlock) => show W9.cell? ⟨w.heap.size, 0, none⟩ = some va ∧ W9.frozen? ⟨w.heap.size, 0, none⟩ = false from by
      have k9 : Keep (fun i => va.ownBlock = some i) X W9 := Keep.grown (Keep.mono (Keep.alloc k o) (fun _ _ h => h.elim)) hg (fun i e _ => e)
      have b9 := (k9.block _ (lt_of_block e1) (e2.ne_ e1 (by decide))).trans e1
      exact ⟨cell_of_one b9, free_of_one b9⟩
    clear hP e1 e4 how
    gi_wp2
    have HO := Lib.hid fun W (k : KF X W) => e2.kept k (fun _ _ h => h)
    have hrl : rs.length ≤ 65536 := by rw [e4l]; simp only [lsOf, List.length_map]; omega
    have HB1 : Hid (∀ q : RV, (rs.length + [q].length) * 24 ≤ 140737488355328) := Lib.hid fun q => by simp only [List.length_cons, List.length_nil]; omega
    have HB2 : Hid (∀ q : RV, rs.length + [q].length ≤ 1000000000) := Lib.hid fun q => by simp only [List.length_cons, List.length_nil]; omega
    refine wpIn_region_any (by kernel_rfl) ?_
    change wpAnyIn _ _ _ _ _ _ _ _ _ (World.drew _)
    refine wpAnyIn_ready (rs := [0, 1]) (by kernel_rfl) (by simp) ?_
    refine AllReadyIn.cons rfl (fun K hK => ?_) ?_
    · (go_simp; refine hK _ _ ?_; clear hK K)
      refine wpAnyIn_ready (rs := [1]) (by kernel_rfl) (by simp) ?_
      refine AllReadyIn.cons rfl (fun K hK => ?_) ?_
      · (go_simp; refine hK _ _ ?_; clear hK K)
        refine wpAnyIn_ready (rs := [2]) (by kernel_rfl) (by simp) ?_
        refine AllReadyIn.cons rfl (fun K hK => ?_) ?_
        · (go_simp; refine ⟨trivial, ?_⟩; refine (CallsIn.inRound l (callsIn_wide.2 (HC.out _ (KF.refl X).drew))).mono ?_; rintro e w5 ⟨A5, c5, rfl, o5, nb5, k5⟩; have kk5 := KF.trans (KF.refl X).drew k5; have nb5w := nb5.older (Keep.size (KF.refl X).drew); have s5 := H1.out _ kk5; have m5 := H1.out _ (Keep.alloc kk5 (.cells #[.slice A5 x.1.n c5] 31)); refine hK _ _ ?_; clear hK K)
          refine wpAnyIn_ready (rs := [3]) (by kernel_rfl) (by simp) ?_
          refine AllReadyIn.cons rfl (fun K hK => ?_) ?_
          · (go_simp; refine hK _ _ ?_; clear hK K)
            refine wpAnyIn_ready (rs := [4]) (by kernel_rfl) (by simp) ?_
            refine AllReadyIn.cons rfl (fun K hK => ?_) ?_
            · (refine stepIn_append_c _ rfl _ _ _ rfl ctRow encR_len encR_one (by decide) va rs rfl (HO.out _ (Keep.alloc kk5 _)) (w5.heap.size + 1) (some ⟨w5.heap.size, 0, none⟩) 1 1 [⟨A5, x.1.n, c5⟩] rfl rfl (RdC.lit encR_len w5 31 ⟨A5, x.1.n, c5⟩) (HB1.out _) (HB2.out _) ?_; intro v9 w9 o9 g9 f9; obtain ⟨A9, n9, c9, rfl⟩ : ∃ A9 n9 c9, v9 = .slice A9 n9 c9 := (by obtain ⟨A9, c9, e9, _⟩ := o9.shape encR_len; exact ⟨_, _, _, e9⟩); obtain ⟨s9, t9⟩ := HG.out _ _ _ kk5 g9; have FF := FIN.out _ _ _ _ _ _ _ kk5 o5 nb5w g9 o9 f9; refine hK _ _ ?_; clear hK K)
              refine wpAnyIn_ready (rs := [5]) (by kernel_rfl) (by simp) ?_
              refine AllReadyIn.cons rfl (fun K hK => ?_) ?_
              · (go_simp; refine hK _ _ ?_; clear hK K)
                refine wpAnyIn_done (by kernel_rfl) ?_ _
                exact ⟨rfl, FF.2, FF.1⟩
              exact AllReadyIn.nil
            exact AllReadyIn.nil
          exact AllReadyIn.nil
        exact AllReadyIn.nil
      exact AllReadyIn.nil
    refine AllReadyIn.cons rfl (fun K hK => ?_) ?_
    · (go_simp; refine hK _ _ ?_; clear hK K)
      refine wpAnyIn_ready (rs := [0, 2]) (by kernel_rfl) (by simp) ?_
      refine AllReadyIn.cons rfl (fun K hK => ?_) ?_
      · (go_simp; refine hK _ _ ?_; clear hK K)
        refine wpAnyIn_ready (rs := [2]) (by kernel_rfl) (by simp) ?_
        refine AllReadyIn.cons rfl (fun K hK => ?_) ?_
        · (go_simp; refine ⟨trivial, ?_⟩; refine (CallsIn.inRound l (callsIn_wide.2 (HC.out _ (KF.refl X).drew))).mono ?_; rintro e w5 ⟨A5, c5, rfl, o5, nb5, k5⟩; have kk5 := KF.trans (KF.refl X).drew k5; have nb5w := nb5.older (Keep.size (KF.refl X).drew); have s5 := H1.out _ kk5; have m5 := H1.out _ (Keep.alloc kk5 (.cells #[.slice A5 x.1.n c5] 31)); refine hK _ _ ?_; clear hK K)
          refine wpAnyIn_ready (rs := [3]) (by kernel_rfl) (by simp) ?_
          refine AllReadyIn.cons rfl (fun K hK => ?_) ?_
          · (go_simp; refine hK _ _ ?_; clear hK K)
            refine wpAnyIn_ready (rs := [4]) (by kernel_rfl) (by simp) ?_
            refine AllReadyIn.cons rfl (fun K hK => ?_) ?_
            · (refine stepIn_append_c _ rfl _ _ _ rfl ctRow encR_len encR_one (by decide) va rs rfl (HO.out _ (Keep.alloc kk5 _)) (w5.heap.size + 1) (some ⟨w5.heap.size, 0, none⟩) 1 1 [⟨A5, x.1.n, c5⟩] rfl rfl (RdC.lit encR_len w5 31 ⟨A5, x.1.n, c5⟩) (HB1.out _) (HB2.out _) ?_; intro v9 w9 o9 g9 f9; obtain ⟨A9, n9, c9, rfl⟩ : ∃ A9 n9 c9, v9 = .slice A9 n9 c9 := (by obtain ⟨A9, c9, e9, _⟩ := o9.shape encR_len; exact ⟨_, _, _, e9⟩); obtain ⟨s9, t9⟩ := HG.out _ _ _ kk5 g9; have FF := FIN.out _ _ _ _ _ _ _ kk5 o5 nb5w g9 o9 f9; refine hK _ _ ?_; clear hK K)
              refine wpAnyIn_ready (rs := [5]) (by kernel_rfl) (by simp) ?_
              refine AllReadyIn.cons rfl (fun K hK => ?_) ?_
              · (go_simp; refine hK _ _ ?_; clear hK K)
                refine wpAnyIn_done (by kernel_rfl) ?_ _
                exact ⟨rfl, FF.2, FF.1⟩
              exact AllReadyIn.nil
            exact AllReadyIn.nil
          exact AllReadyIn.nil
        exact AllReadyIn.nil
      refine AllReadyIn.cons rfl (fun K hK => ?_) ?_
      · (go_simp; refine ⟨trivial, ?_⟩; refine (CallsIn.inRound l (callsIn_wide.2 (HC.out _ (KF.refl X).drew))).mono ?_; rintro e w5 ⟨A5, c5, rfl, o5, nb5, k5⟩; have kk5 := KF.trans (KF.refl X).drew k5; have nb5w := nb5.older (Keep.size (KF.refl X).drew); have s5 := H1.out _ kk5; have m5 := H1.out _ (Keep.alloc kk5 (.cells #[.slice A5 x.1.n c5] 31)); refine hK _ _ ?_; clear hK K)
        refine wpAnyIn_ready (rs := [0, 3]) (by kernel_rfl) (by simp) ?_
        refine AllReadyIn.cons rfl (fun K hK => ?_) ?_
        · (go_simp; refine hK _ _ ?_; clear hK K)
          refine wpAnyIn_ready (rs := [3]) (by kernel_rfl) (by simp) ?_
          refine AllReadyIn.cons rfl (fun K hK => ?_) ?_
          · (go_simp; refine hK _ _ ?_; clear hK K)
            refine wpAnyIn_ready (rs := [4]) (by kernel_rfl) (by simp) ?_
            refine AllReadyIn.cons rfl (fun K hK => ?_) ?_
            · (refine stepIn_append_c _ rfl _ _ _ rfl ctRow encR_len encR_one (by decide) va rs rfl (HO.out _ (Keep.alloc kk5 _)) (w5.heap.size + 1) (some ⟨w5.heap.size, 0, none⟩) 1 1 [⟨A5, x.1.n, c5⟩] rfl rfl (RdC.lit encR_len w5 31 ⟨A5, x.1.n, c5⟩) (HB1.out _) (HB2.out _) ?_; intro v9 w9 o9 g9 f9; obtain ⟨A9, n9, c9, rfl⟩ : ∃ A9 n9 c9, v9 = .slice A9 n9 c9 := (by obtain ⟨A9, c9, e9, _⟩ := o9.shape encR_len; exact ⟨_, _, _, e9⟩); obtain ⟨s9, t9⟩ := HG.out _ _ _ kk5 g9; have FF := FIN.out _ _ _ _ _ _ _ kk5 o5 nb5w g9 o9 f9; refine hK _ _ ?_; clear hK K)
              refine wpAnyIn_ready (rs := [5]) (by kernel_rfl) (by simp) ?_
              refine AllReadyIn.cons rfl (fun K hK => ?_) ?_
              · (go_simp; refine hK _ _ ?_; clear hK K)
                refine wpAnyIn_done (by kernel_rfl) ?_ _
                exact ⟨rfl, FF.2, FF.1⟩
              exact AllReadyIn.nil
            exact AllReadyIn.nil
          exact AllReadyIn.nil
        refine AllReadyIn.cons rfl (fun K hK => ?_) ?_
        · (go_simp; refine hK _ _ ?_; clear hK K)
          refine wpAnyIn_ready (rs := [0]) (by kernel_rfl) (by simp) ?_
          refine AllReadyIn.cons rfl (fun K hK => ?_) ?_
          · (go_simp; refine hK _ _ ?_; clear hK K)
            refine wpAnyIn_ready (rs := [4]) (by kernel_rfl) (by simp) ?_
            refine AllReadyIn.cons rfl (fun K hK => ?_) ?_
            · (refine stepIn_append_c _ rfl _ _ _ rfl ctRow encR_len encR_one (by decide) va rs rfl (HO.out _ (Keep.alloc kk5 _)) (w5.heap.size + 1) (some ⟨w5.heap.size, 0, none⟩) 1 1 [⟨A5, x.1.n, c5⟩] rfl rfl (RdC.lit encR_len w5 31 ⟨A5, x.1.n, c5⟩) (HB1.out _) (HB2.out _) ?_; intro v9 w9 o9 g9 f9; obtain ⟨A9, n9, c9, rfl⟩ : ∃ A9 n9 c9, v9 = .slice A9 n9 c9 := (by obtain ⟨A9, c9, e9, _⟩ := o9.shape encR_len; exact ⟨_, _, _, e9⟩); obtain ⟨s9, t9⟩ := HG.out _ _ _ kk5 g9; have FF := FIN.out _ _ _ _ _ _ _ kk5 o5 nb5w g9 o9 f9; refine hK _ _ ?_; clear hK K)
              refine wpAnyIn_ready (rs := [5]) (by kernel_rfl) (by simp) ?_
              refine AllReadyIn.cons rfl (fun K hK => ?_) ?_
              · (go_simp; refine hK _ _ ?_; clear hK K)
                refine wpAnyIn_done (by kernel_rfl) ?_ _
                exact ⟨rfl, FF.2, FF.1⟩
              exact AllReadyIn.nil
            exact AllReadyIn.nil
          exact AllReadyIn.nil
        exact AllReadyIn.nil
      exact AllReadyIn.nil
    exact AllReadyIn.nil
  case done =>
    rintro D xs X hD ⟨hT, hS⟩ hK
    obtain ⟨va, rs, e1, e2, e3, e4⟩ := hS.all
    obtain ⟨A, c, rfl, _, _, _, _⟩ := id (e2.shape encR_len)
    have hls : lsOf xs = wholes d.pages := by rw [hT, lsOf_ws _ _ hlen]
    rw [hls] at e4
    have c1 := cell_of_one e1
    have kD : Keep (fun i => i = D) X (X.putObj D (.deferred none)) := keep_put X D _
    have hw0 := k0.size
    have FIN : Hid (∃ A' n c', Ending.returned (Value.slice A rs.length c) = .returned (.slice A' n c') ∧ (n = (wholes d.pages).length ∧ n ≤ c' ∧ c' ≤ maxLen ∧ RdS (X.putObj D (.deferred none)) w.heap.size (X.putObj D (.deferred none)).heap.size A' (wholes d.pages)) ∧ KF w (X.putObj D (.deferred none))) := Lib.hid (by
      have hc : ∀ cs t fr, X.heap[D]? ≠ some (.cells cs t fr) := fun cs t fr e => by rw [hK] at e; cases e
      have o' : OwnC 31 1 encR (X.putObj D (.deferred none)) (.slice A rs.length c) rs := e2.kept kD (fun i hi e => by
        subst e
        obtain ⟨cs, e⟩ := e2.cells_ hi
        exact hc _ _ _ e)
      have r' : Rws w (X.putObj D (.deferred none)) rs (wholes d.pages) := e4.kept kD (fun r hr i hi e => by
        subst e
        obtain ⟨l, ho, _⟩ := e4.own hr
        rcases ho.2 with ⟨e, _⟩ | ⟨g', cap, cur, e, _, hg, _⟩
        · rw [e] at hi; simp [Value.ownBlock] at hi
        · rw [e] at hi
          simp only [Value.ownBlock, Option.some.injEq] at hi
          subst hi
          exact hc _ _ _ hg)
      exact ⟨A, _, c, rfl, PS.rows o' e3 r', Keep.trans hS.keep kD (fun i hi e => by omega)⟩)
    clear e2 e3 e4 hS hT hls hst P0
    gi_wp2
    refine ⟨by simp, .inl ⟨_, _, rfl, run_takeDeferred hK, ?_⟩⟩
    refine ⟨_, results_tmp rfl _ _ _, ?_⟩
    exact FIN.out
  · obtain ⟨cs, t, fr, e⟩ : ∃ cs t fr, X.heap[j]? = some (.cells cs t fr) := by
      rcases h.2.2.1.2 with ⟨e, _⟩ | ⟨g', cap, cur, e, _, hg, _⟩
      · rw [e] at hj; simp [Value.ownBlock] at hj
      · rw [e] at hj
        simp only [Value.ownBlock, Option.some.injEq] at hj
        subst hj
        exact ⟨_, _, _, hg⟩
    subst_vars
    rw [ho] at e
    injection e with e
    rw [e] at hc
    cases hc
end Go.Proofs.Ytncenfgnhamdbaa
