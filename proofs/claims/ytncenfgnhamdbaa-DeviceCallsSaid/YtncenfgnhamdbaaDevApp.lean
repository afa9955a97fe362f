/-
  WALKS of a device's Append, dropEmpty, Twin.
-/
import Derived.Test.YtncenfgnhamdbaaDevOps
namespace Go.Proofs.Ytncenfgnhamdbaa
open Go.RowKit

section
variable {w w5 w9 : World} {g : Nat} {v v' : Value} {qs : List PV} {d : Dv}
theorem DevAt.pushed (h : DevAt w g v qs d) (hroom : d.pages.length < d.room) {b : List UInt8} {A5 : Option Addr} {n5 c5 : Nat} (k5 : KF w w5) (o5 : Own 5 w5 (.slice A5 n5 c5) b) (nb5 : NB w (.slice A5 n5 c5)) (hb : b.length ≤ 1000) {X : Obj}
    (hg : (w5.alloc X).grownBy w9 v.ownBlock) (o9 : OwnC 52 2 encP w9 v' (qs ++ [⟨1, A5, n5, c5⟩])) (hf : v'.ownBlock = v.ownBlock ∨ v'.ownBlock = some (w5.alloc X).heap.size) :
    DLeft w g v qs (d.push b) v' (qs ++ [⟨1, A5, n5, c5⟩]) (w9.setCell ⟨g, 1, none⟩ v') := by
  have hlt := h.lt
  have k6 : KF w (w5.alloc X) := Keep.alloc k5 X
  have k9 : Keep (fun i => v.ownBlock = some i) w w9 := Keep.grown (Keep.mono k6 (fun _ _ h => h.elim)) hg (fun i e _ => e)
  have b9 : w9.heap[g]? = some (.cells #[.int .i64 (d.room : Int), v, .int .i64 (d.last : Int)] 45 (0, 0)) := (k9.block g hlt h.row_ne).trans h.dev
  have kS : Keep (DS g v) w (w9.setCell ⟨g, 1, none⟩ v') := (k9.mono (fun _ _ h => .inr h)).setCell (p := ⟨g, 1, none⟩) (.inr (.inl rfl)) v'
  have k59 : Keep (fun i => v.ownBlock = some i) w5 w9 := Keep.grown ((Keep.refl _ w5).alloc X) hg (fun i e _ => e)
  have k59S : Keep (DS g v) w5 (w9.setCell ⟨g, 1, none⟩ v') := (k59.mono (fun _ _ h => .inr h)).setCell (p := ⟨g, 1, none⟩) (.inr (.inl rfl)) v'
  have hpush : d.push b = { d with pages := d.pages ++ [⟨1, b⟩] } := Dv.push_room hroom b
  have hrl : ∀ i, v.ownBlock = some i → i < w.heap.size := fun i hi => h.foot_lt (.inr (.inl hi))
  refine ⟨⟨?_, ?_, ⟨?_, fun j q p hq hp => ?_⟩, h.good.push b, ?_, ?_⟩, kS, ?_, ?_⟩
  · rw [hpush]
    exact heap_setCell_same w9 g 1 _ _ v' b9
  · exact o9.kept (Keep.setCell (S := fun i => i = g) (Keep.refl _ w9) (p := ⟨g, 1, none⟩) (.inr rfl) v') (by rintro i hi rfl; exact o9.ne_ b9 (by decide) hi)
  · rw [hpush, List.length_append, List.length_append, h.len]
    rfl
  · rw [hpush] at hp
    simp only at hp
    rcases Nat.lt_or_ge j qs.length with hj | hj
    · rw [List.getElem?_append_left hj] at hq
      rw [List.getElem?_append_left (by rw [← h.len]; exact hj)] at hp
      exact (h.held.kept kS h.held_S).2 j q p hq hp
    · rw [List.getElem?_append_right hj] at hq
      rw [List.getElem?_append_right (by rw [← h.len]; exact hj), ← h.len] at hp
      have hj0 : j - qs.length = 0 := by
        rcases Nat.eq_zero_or_pos (j - qs.length) with h' | h'
        · exact h'
        · rw [List.getElem?_eq_none (by simp; omega)] at hq; cases hq
      rw [hj0] at hq hp
      injection hq with hq
      injection hp with hp
      subst hq hp
      refine ⟨rfl, o5.kept k59S ?_⟩
      rintro i hi (rfl | e)
      · have := nb5 _ hi
        omega
      · have := nb5 _ hi
        have := hrl i e
        omega
  · rw [hpush]
    exact h.room
  · rw [hpush]
    intro p hp
    rcases List.mem_append.1 hp with hp | hp
    · exact h.short p hp
    · rw [List.mem_singleton] at hp
      subst hp
      exact hb
  · rintro i (rfl | hi | ⟨q, hq, hi⟩)
    · exact .inl (.inl rfl)
    · rcases hf with hf | hf
      · exact .inl (.inr (.inl (hf ▸ hi)))
      · rw [hf] at hi
        injection hi with hi
        have := k6.size
        exact .inr (by omega)
    · rcases List.mem_append.1 hq with hq | hq
      · exact .inl (.inr (.inr ⟨q, hq, hi⟩))
      · rw [List.mem_singleton] at hq
        subst hq
        exact .inr (nb5 i hi)
  · rcases hf with hf | hf
    · exact .inl hf
    · refine .inr fun i hi => ?_
      rw [hf] at hi
      injection hi with hi
      have := k6.size
      omega
end
set_option maxHeartbeats 1000000 in
theorem dappend_any {g : Nat} {v : Value} {qs : List PV} {d : Dv} (A : Option Addr) (b : List UInt8) (n c : Nat) (w : World) (h : DevAt w g v qs d) (hn : n = b.length) (hb : b.length ≤ 1000) (hr : Rd w w.heap.size A b) :
    Calls Try.prog 9 #[.pointer (some ⟨g, 0, none⟩), .slice A n c] w (DDid w g v qs (d.push b) (.int .i64 (if d.room ≤ d.pages.length then 4 else 0))) := by
  have CF := Lib.hid (dfree_any w h)
  by_cases hfull : d.room ≤ d.pages.length
  · have hz : d.room - d.pages.length = 0 := by omega
    rw [hz] at CF
    have FIN : Hid (∀ k, DDid w g v qs (d.push b) (.int .i64 (if d.room ≤ d.pages.length then 4 else 0)) (.returned (.int .i64 4)) (w.drewN k)) := Lib.hid fun k => by
      rw [if_pos hfull, Dv.push_full hfull]
      exact ⟨rfl, _, _, (DLeft.refl h).drewN k⟩
    generalize DDid w g v qs (d.push b) (.int .i64 (if d.room ≤ d.pages.length then 4 else 0)) = Q at *
    clear h hr hfull hz
    go_enter Try.func9, Try.ntmps9
    go_wp2_with fail
    refine CF.out.mono ?_
    rintro e w1 ⟨rfl, k, rfl⟩
    go_wp2_with fail
    exact FIN.out k
  · have hroom : d.pages.length < d.room := by omega
    obtain ⟨z, hz⟩ : ∃ z : Nat, d.room - d.pages.length = z := ⟨_, rfl⟩
    have hz0 : ((z : Int) == 0) = false := by simp; omega
    rw [hz] at CF
    have hrow := h.row
    have hlen : qs.length ≤ 65536 := by have := h.len; have := h.room; omega
    obtain ⟨vA, vc, hv, _⟩ := hrow.shape encP_len
    have HB1 : Hid (∀ q : PV, (qs.length + [q].length) * 32 ≤ 140737488355328) := Lib.hid fun q => by simp only [List.length_cons, List.length_nil]; omega
    have HB2 : Hid (∀ q : PV, qs.length + [q].length ≤ 1000000000) := Lib.hid fun q => by simp only [List.length_cons, List.length_nil]; omega
    have HC := Lib.hid fun W (k : KF w W) => clone_any A b n c W hn (by omega) w.heap.size (hr.keepF k (Nat.le_refl _)) k.size
    have H1 := Lib.hid fun W (k : KF w W) => show W.cell? ⟨g, 1, none⟩ = some v from (h.far k).cells.2.1
    have HO := Lib.hid fun W (k : KF w W) => (h.far k).row
    have HG := Lib.hid fun (W W9 : World) (X : Obj) (k : KF w W) (hg : (W.alloc X).grownBy W9 v.ownBlock) => show W9.cell? ⟨g, 1, none⟩ = some v ∧ W9.frozen? ⟨g, 1, none⟩ = false from by
      have k9 : Keep (fun i => v.ownBlock = some i) w W9 := Keep.grown (Keep.mono (Keep.alloc k X) (fun _ _ h => h.elim)) hg (fun i e _ => e)
      have b9 := (k9.block g h.lt h.row_ne).trans h.dev
      exact ⟨by simp [World.cell?, b9], by simp [World.frozen?, b9]⟩
    have FIN : Hid (∀ W W9 X v' A5 n5 c5, KF w W → Own 5 W (.slice A5 n5 c5) b → NB w (.slice A5 n5 c5) → (W.alloc X).grownBy W9 v.ownBlock → OwnC 52 2 encP W9 v' (qs ++ [⟨1, A5, n5, c5⟩]) → (v'.ownBlock = v.ownBlock ∨ v'.ownBlock = some (W.alloc X).heap.size) → DDid w g v qs (d.push b) (.int .i64 (if d.room ≤ d.pages.length then 4 else 0)) (.returned (.int .i64 0)) (W9.setCell ⟨g, 1, none⟩ v')) := Lib.hid fun W W9 X v' A5 n5 c5 k o nb hg o9 hf => by
      rw [if_neg hfull]
      exact ⟨rfl, _, _, h.pushed hroom k o nb hb hg o9 hf⟩
    generalize DDid w g v qs (d.push b) (.int .i64 (if d.room ≤ d.pages.length then 4 else 0)) = Q at *
    subst hv
    clear h hr hfull hz hroom hrow hn
    go_enter Try.func9, Try.ntmps9
    go_wp2_with fail
    refine CF.out.mono ?_
    rintro e w1 ⟨rfl, k, rfl⟩
    have k1 : KF w (w.drewN k) := (KF.refl w).drewN k
    have c1 := H1.out _ k1
    have HK1 := Lib.hid k1
    clear CF k1
    generalize w.drewN k = w1 at *
    go_upto_region 3 with fail
    go_region_law (first
      | (refine step_append_c _ rfl _ _ _ rfl ctPage encP_len encP_one (by decide) (.slice vA qs.length vc) qs rfl (HO.out _ (Keep.alloc kk5 _)) (w5.heap.size + 1) (some ⟨w5.heap.size, 0, none⟩) 1 1 [⟨1, A5, n, c5⟩] rfl rfl (RdC.lit encP_len w5 52 ⟨1, A5, n, c5⟩) (HB1.out _) (HB2.out _) ?_; intro A9 n9 c9 w9 o9 e9 h9 m9 g9 f9; obtain ⟨s9, t9⟩ := HG.out _ _ _ kk5 g9)
      | (go_simp; go_wp2_with (first | (go_at_call 22; refine (HC.out _ ?_).mono ?_; (first | exact HK1.out | exact Keep.drew HK1.out); rintro e w5 ⟨A5, c5, rfl, o5, nb5, k5⟩; have kk5 := KF.trans (by first | exact HK1.out | exact Keep.drew HK1.out) k5; have nb5w := nb5.older (Keep.size (by first | exact HK1.out | exact Keep.drew HK1.out)); have s5 := H1.out _ kk5; have m5 := H1.out _ (Keep.alloc kk5 (.cells #[.int .u8 1, .slice A5 n c5] 52))))))
    all_goals
      go_wp2_with fail
      exact FIN.out _ _ _ _ _ _ _ kk5 o5 nb5w g9 o9 f9
theorem Held.take {w : World} {qs : List PV} {ps : List Pg} (h : Held w qs ps) (k : Nat) : Held w (qs.take k) (ps.take k) :=
  ⟨by rw [List.length_take, List.length_take, h.1], fun j q p hq hp => by
    rw [List.getElem?_take] at hq hp
    split at hq
    · next hj =>
      rw [if_pos hj] at hp
      exact h.2 j q p hq hp
    · cases hq⟩
/-- The pages end with the last one that isn't empty; how many last isn't told yet. -/
structure DPre (w : World) (g : Nat) (v : Value) (qs : List PV) (room : Nat) (last : Nat) (ps : List Pg) : Prop where
  dev : w.heap[g]? = some (.cells #[.int .i64 (room : Int), v, .int .i64 (last : Int)] 45 (0, 0))
  row : OwnC 52 2 encP w v qs
  held : Held w qs ps
section
variable {w w' : World} {g room last : Nat} {v : Value} {qs : List PV} {ps : List Pg}
theorem DPre.lt (h : DPre w g v qs room last ps) : g < w.heap.size := lt_of_block h.dev
theorem DPre.cells (h : DPre w g v qs room last ps) : w.cell? ⟨g, 0, none⟩ = some (.int .i64 (room : Int)) ∧ w.cell? ⟨g, 1, none⟩ = some v ∧ w.cell? ⟨g, 2, none⟩ = some (.int .i64 (last : Int)) := by
  have hb := h.dev
  refine ⟨?_, ?_, ?_⟩ <;> simp [World.cell?, hb]
theorem DPre.free (h : DPre w g v qs room last ps) (i : Nat) : w.frozen? ⟨g, i, none⟩ = false := by simp [World.frozen?, h.dev]
theorem DPre.shape (h : DPre w g v qs room last ps) : ∃ A c, v = .slice A ps.length c ∧ ps.length ≤ c ∧ c ≤ maxLen ∧ RdC 2 encP w w.heap.size A qs ∧ (∀ a : Addr, A = some a → v.ownBlock = some a.block) := by
  have := h.row.shape encP_len
  rwa [h.held.1] at this
theorem DPre.row_ne (h : DPre w g v qs room last ps) : v.ownBlock ≠ some g := h.row.ne_ h.dev (by decide)
theorem DPre.held_S (h : DPre w g v qs room last ps) : ∀ q ∈ qs, ∀ i, q.e1.ownBlock = some i → ¬ DS g v i := by
  intro q hq i hi hs
  obtain ⟨j, hj⟩ := List.mem_iff_getElem?.1 hq
  have hlt : j < ps.length := by
    rw [← h.held.1]
    exact (List.getElem?_eq_some_iff.1 hj).1
  have ho := (h.held.2 j q _ hj (List.getElem?_eq_getElem hlt)).2
  rcases hs with rfl | e
  · exact ho.ne_ h.dev (by decide) hi
  · obtain ⟨cs, e'⟩ := h.row.cells_ e
    exact ho.ne_ e' (by decide) hi
theorem DevAt.pre {d : Dv} (h : DevAt w g v qs d) : DPre w g v qs d.room d.last d.pages := ⟨h.dev, h.row, h.held⟩
theorem DPre.far (h : DPre w g v qs room last ps) (k : KF w w') : DPre w' g v qs room last ps :=
  ⟨(k.block g h.lt (fun h => h)).trans h.dev, h.row.kept k (fun _ _ h => h), h.held.kept k (fun _ _ _ _ h => h)⟩
/-- The row is cut at its end. -/
theorem DPre.cut {A : Option Addr} {n c : Nat} (h : DPre w g (.slice A n c) qs room last ps) (k : Nat) (hk : k ≤ n) : DPre (w.setCell ⟨g, 1, none⟩ (.slice A k c)) g (.slice A k c) (qs.take k) room last (ps.take k) := by
  have k1 : Keep (fun i => i = g) w (w.setCell ⟨g, 1, none⟩ (.slice A k c)) := Keep.setCell (S := fun i => i = g) (Keep.refl _ w) (p := ⟨g, 1, none⟩) (.inr rfl) _
  have ho := h.row.cut encP_len k hk
  have hne : (Value.slice A k c).ownBlock = (Value.slice A n c).ownBlock := by cases A <;> rfl
  refine ⟨heap_setCell_same w g 1 _ _ _ h.dev, ho.kept k1 (by rintro i hi rfl; exact h.row_ne (hne ▸ hi)), (h.held.take k).kept k1 (fun q hq i hi e => ?_)⟩
  exact h.held_S q (List.mem_of_mem_take hq) i hi (.inl e)
end
set_option maxHeartbeats 1000000 in
theorem ddrop_any {g room last : Nat} {v : Value} {qs : List PV} {ps : List Pg} (w : World) (h : DPre w g v qs room last ps) (hb : ps.length ≤ 65536) :
    Calls Try.prog 25 #[.pointer (some ⟨g, 0, none⟩)] w fun e w' => e = .returned (.tuple #[]) ∧ ∃ v', v'.ownBlock = v.ownBlock ∧ DPre w' g v' (qs.take (endN ps ps.length)) room last (trim ps) ∧ Keep (fun i => i = g) w w' := by
  obtain ⟨A, c, rfl, hc1, hc2, hR, _⟩ := h.shape
  obtain ⟨c0, c1, c2⟩ := h.cells
  have f1 := h.free 1
  have HE := Lib.hid (endN_le ps ps.length)
  have HR := Lib.hid fun k (hk : k < ps.length) => show ∃ (b o p : Nat), A = some ⟨b, o, none⟩ ∧ w.cell? ⟨b, o + k * 2, none⟩ = some (.int .u8 (p : Int)) ∧ endN ps (k + 1) = if p = 0 then endN ps k else k + 1 from by
    have hkq : k < qs.length := by rw [h.held.1]; exact hk
    obtain ⟨b, o, rfl, _, hcell⟩ := hR k _ (List.getElem?_eq_getElem hkq)
    have h1 := hcell 0 _ rfl
    have h2 := (h.held.2 k _ _ (List.getElem?_eq_getElem hkq) (List.getElem?_eq_getElem hk)).1
    refine ⟨b, o, qs[k].st, rfl, h1, ?_⟩
    rw [endN, List.getElem?_eq_getElem hk, Option.map_some, h2]
    by_cases hz : ps[k].st = 0
    · rw [if_pos (by rw [hz]), if_pos hz]
    · rw [if_neg (fun e => hz (by injection e)), if_neg hz]
  have FIN : Hid (∀ k, k = endN ps ps.length → ∃ v', v'.ownBlock = (Value.slice A ps.length c).ownBlock ∧ DPre (w.setCell ⟨g, 1, none⟩ (.slice A k c)) g v' (qs.take (endN ps ps.length)) room last (trim ps) ∧ Keep (fun i => i = g) w (w.setCell ⟨g, 1, none⟩ (.slice A k c))) := Lib.hid fun k hk => by
    subst hk
    exact ⟨_, by cases A <;> rfl, h.cut _ HE.out, Keep.setCell (S := fun i => i = g) (Keep.refl _ w) (p := ⟨g, 1, none⟩) (.inr rfl) _⟩
  clear h hR
  generalize hl : ps.length = l at *
  go_enter Try.func25, Try.ntmps25
  go_wp2_with fail
  go_loopg [2] l (fun gh i wr => ∃ k : Nat, k ≤ l ∧ k ≤ gh ∧ i = .int .i64 k ∧ Hid (endN ps l = endN ps k) ∧ wr = w)
  case atStart => exact ⟨l, Nat.le_refl _, Nat.le_refl _, rfl, Lib.hid rfl, rfl⟩
  case round =>
    obtain ⟨k, hk, hg, rfl, HK, rfl⟩ := hrel
    rcases k with _ | k
    · have HF := FIN.out 0 (by rw [HK.out]; rfl)
      have HF2 := Lib.hid HF
      clear HF FIN
      have hs0 : (0 : Nat) ≤ c := Nat.zero_le _
      go_wp2_with fail
      go_end0
      exact ⟨rfl, HF2.out⟩
    · obtain ⟨b, o, p, rfl, hcell, hend⟩ := HR.out k (by omega)
      have hlt' : (0 : Int) < ((k + 1 : Nat) : Int) := by omega
      have hw : IntKind.i64.wrap (((k + 1 : Nat) : Int) - 1) = (k : Int) := by rw [IntKind.wrap_i64]; omega
      by_cases hp : p = 0
      · subst hp
        rw [if_pos rfl] at hend
        have HK2 : Hid (endN ps l = endN ps k) := Lib.hid (HK.out.trans hend)
        clear hend HK
        go_wp2_with fail
        go_roundg k
        case measure => omega
        case rel => exact ⟨k, by omega, by omega, by go_num, HK2, rfl⟩
      · rw [if_neg hp] at hend
        have hpb : ((p : Int) == 0) = false := by simp; omega
        have HF2 := Lib.hid (FIN.out (k + 1) (by rw [HK.out, hend]))
        clear hend HK FIN
        go_wp2_with fail
        go_end0
        exact ⟨rfl, HF2.out⟩
end Go.Proofs.Ytncenfgnhamdbaa
