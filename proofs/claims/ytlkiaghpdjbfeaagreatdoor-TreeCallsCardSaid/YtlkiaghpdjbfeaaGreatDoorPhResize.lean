/-
  The program's resize and cut.
-/
import Derived.Test.YtlkiaghpdjbfeaaGreatDoorPhUnlink
import Derived.Test.YtlkiaghpdjbfeaaGreatDoorPk1
namespace Go.Proofs.YtlkiaghpdjbfeaaGreatDoor
open Go.RowKit Go.Maps

theorem u8_law : U8 Tryz.prog 29 5 := ⟨Tryz.underlying29, (Tryz.prog.info? 5).get (by kernel_rfl), by kernel_rfl, by kernel_rfl, by kernel_rfl, by kernel_rfl⟩
theorem own_zeros (w : World) (n : Nat) (hm : n ≤ maxLen) : Own 5 (w.alloc (.cells (zrow n) 5)) (.slice (some ⟨w.heap.size, 0, none⟩) n n) (zeros n) := by
  have := Own.lit 5 w (zeros n) (by rw [zeros_length]; exact hm)
  rw [zeros_length] at this
  exact this
theorem over_sized (b : Txt) (n : Nat) : over (zeros n) 0 (b.take n) = sized b n := by
  unfold over sized zeros
  simp only [List.take_zero, List.nil_append, Nat.zero_add, List.drop_replicate, List.length_take]
  congr 2
  omega

set_option maxRecDepth 100000 in
theorem resize_any (w : World) (L : Lay) (N : Nat) (t : Tr) (a size : Nat) (hT : TreeAt w L N t) (ha : (t a).kind ≠ 0) (hsz : size ≤ 1000000) :
    Calls Tryz.prog 91 #[.pointer (some ⟨L.nb a, 0, none⟩), .int .i64 (size : Int)] w fun e w' => e = .returned (.tuple #[]) ∧
      ∃ g : Nat, w.heap.size ≤ g ∧ Keep (fun b => b = L.nb a) w w' ∧ TreeAt w' { L with dv := fun n => if n = a then .slice (some ⟨g, 0, none⟩) size size else L.dv n } N (t.set a ⟨(t a).kind, (t a).links, sized (t a).data size, (t a).entries⟩) := by
  have hmk := run_make_u8 (P := Tryz.prog) u8_law size (by omega)
  have HT := Lib.hid hT
  have k1 : KF w (w.alloc (.cells (zrow size) 5)) := (KF.refl w).alloc _
  have T1 := hT.far k1
  have cd := T1.cell_data ha
  obtain ⟨A, c, hv, hlc, hcm, hrd, hob⟩ := (T1.data a ha).shape
  obtain ⟨w2, hcp, ho2, k2⟩ := run_copy_u8 u8_law 29 3 (w.alloc (.cells (zrow size) 5)) w.heap.size size size 0 (zeros size) (t a).data (own_zeros w size (by simp only [maxLen]; omega))
    (some ⟨w.heap.size, 0, none⟩) size (Nat.zero_le _) _ A _ c rfl hrd _ rfl fun _ => rfl
  rw [Nat.sub_zero, over_sized] at ho2
  rw [Nat.sub_zero] at hcp
  rw [hv] at cd
  have hfoot := fun q (hq : Foot L t q) => hT.lt hq
  have T2 := T1.kept k2 fun b hb e => by have := hfoot b hb; omega
  have cf := T2.open_nb ha 3
  have cd2 := T2.cell_data ha
  have T3 := T2.node_turn ha (Keep.cell_set w2 ⟨L.nb a, 3, none⟩ (.slice (some ⟨w.heap.size, 0, none⟩) size size)) (t a).links (sized (t a).data size) (.slice (some ⟨w.heap.size, 0, none⟩) size size)
    (by rw [heap_setCell_same _ _ _ _ _ _ (T2.node a ha)]; rfl) (ho2.kept (Keep.cell_set w2 _ _) fun b hb e => by
      have e1 : w.heap.size = b := by simpa [Value.ownBlock] using hb
      have := hfoot _ (foot_nb (L := L) ha)
      have e2 : b = L.nb a := e
      omega) fun m hm hk b hb e => by
      have e1 : w.heap.size = b := by simpa [Value.ownBlock] using hb
      have := hfoot b (.inr (.inr ⟨m, hk, .inr (.inr e)⟩))
      omega
  have HT3 := Lib.hid T3
  have k3 : Keep (fun b => b = L.nb a) w (w2.setCell ⟨L.nb a, 3, none⟩ (.slice (some ⟨w.heap.size, 0, none⟩) size size)) := by
    have h1 : Keep (fun b => b = L.nb a) w w2 := Keep.trans (k1.keep (S := fun b => b = L.nb a)) k2 fun i hi e => by omega
    exact h1.setCell (.inr rfl) _
  clear T1 T2 T3 hT hrd hob ho2 hlc
  generalize (t a).data.length = ld at *
  generalize hmin : ((min ld size : Nat) : Int) = q at hcp
  go_enter Tryz.func91, Tryz.ntmps91
  go_wp2_with fail
  go_end0
  exact ⟨rfl, w.heap.size, Nat.le_refl _, k3, HT3.out⟩

theorem foot_dv {w : World} {L : Lay} {N : Nat} {t : Tr} {a g n c : Nat} {x : TNode} (_hT : TreeAt w L N t) (_ha : (t a).kind ≠ 0) (hx : x.kind = (t a).kind) (hg : w.heap.size ≤ g) {k : Nat}
    (h : Foot { L with dv := fun m => if m = a then .slice (some ⟨g, 0, none⟩) n c else L.dv m } (t.set a x) k) : Foot L t k ∨ w.heap.size ≤ k := by
  rcases (foot_set hx).1 h with h | h | ⟨m, hm, h | h | h⟩
  · exact .inl (.inl h)
  · exact .inl (.inr (.inl h))
  · exact .inl (.inr (.inr ⟨m, hm, .inl h⟩))
  · exact .inl (.inr (.inr ⟨m, hm, .inr (.inl h)⟩))
  · have h' : (if m = a then Value.slice (some ⟨g, 0, none⟩) n c else L.dv m).ownBlock = some k := h
    by_cases e : m = a
    · rw [if_pos e] at h'
      have : g = k := by simpa [Value.ownBlock] using h'
      exact .inr (by omega)
    · rw [if_neg e] at h'
      exact .inl (.inr (.inr ⟨m, hm, .inr (.inr h')⟩))

theorem doCut_err' {t : Tr} {s : Txt} {n : Int} {k : Nat} (h : findFile t s = .error k) : doCut t s n = (errA k, t) := by unfold doCut; rw [h]
theorem doCut_ok {t : Tr} {s : Txt} {n : Int} {a : Nat} (h : findFile t s = .ok a) : doCut t s n = if n < 0 then (errA 1, t) else if 512 < n then (errA 27, t) else (okA, t.bytes a (sized (t a).data n.toNat)) := by unfold doCut; rw [h]

set_option maxRecDepth 100000 in
set_option maxHeartbeats 4000000 in
theorem cut_any (kind off n : Int) (s o : ByteArray) (dv : Value) (w : World) (L : Lay) (N : Nat) (t : Tr) (hT : TreeAt w L N t) (g : Good t) (hs : s.size ≤ 1000000) (he : Env w) :
    Calls Tryz.prog 52 #[.pointer (some ⟨L.tb, 0, none⟩), .agg (callC kind off n s o dv)] w (Changed L N t (doCut t s.data.toList n) w) := by
  have kA : ∀ X, KF w (w.alloc X) := fun X => (KF.refl w).alloc X
  have HC := Lib.hid fun X => findFile_any s (w.alloc X) L N t (hT.far (kA X)) g hs (he.kept (kA X))
  have HT := Lib.hid hT
  have HG := Lib.hid g
  clear hT g
  go_enter Tryz.func52, Tryz.ntmps52
  go_wp2_with fail
  refine (HC.out _).mono ?_
  rintro e w1 ⟨k1, ⟨k, hk, hk0, rfl⟩ | ⟨a, hf, ha2, rfl⟩⟩
  · have HU := Lib.hid hk
    have h0 : ((k : Int) != 0) = true := bne_iff_ne.2 (by omega)
    clear hk
    go_wp2_with fail
    go_ret
    exact Changed.err HT.out (fresh_far k1) (doCut_err' HU.out)
  · have HU := Lib.hid hf
    clear hf
    have c4 := fresh_cell k1 4 rfl
    have T1 := HT.out.far (fresh_far k1)
    have ct := T1.cell_tree
    have ha0 : (t a).kind ≠ 0 := by omega
    have ha64 := HG.out.lt ha0
    by_cases hn : n < 0
    · have H1 := Lib.hid hn
      go_wp2_with fail
      go_ret
      refine Changed.err (c := 1) HT.out (fresh_far k1) ?_
      rw [doCut_ok HU.out, if_pos H1.out]
    · have H1 := Lib.hid hn
      by_cases h512 : 512 < n
      · have H2 := Lib.hid h512
        go_wp2_with fail
        go_ret
        refine Changed.err (c := 27) HT.out (fresh_far k1) ?_
        rw [doCut_ok HU.out, if_neg (Int.not_lt.2 H1.out), if_pos H2.out]
      · have H2 := Lib.hid h512
        obtain ⟨m, rfl⟩ : ∃ m : Nat, n = m := ⟨n.toNat, by omega⟩
        have ln := fun q => (T1.drew q).look_yes (n := a) (by omega) ha0
        have ln1 := T1.drew1.look_yes (n := a) (by omega) ha0
        have ln0 := T1.look_yes (n := a) (by omega) ha0
        have HR := Lib.hid fun wx (kx : KF w1 wx) => resize_any wx L N t a m (T1.far kx) ha0 (by omega)
        go_upto_region 8 with fail
        go_region_with (go_at_call 91; refine (HR.out _ ?_).mono ?_; (first | exact KF.refl _ | exact (KF.refl _).drew | exact (KF.refl _).drewN _); rintro e w5 ⟨rfl, hp⟩)
        all_goals go_wp2_with fail
        all_goals go_ret
        all_goals
          obtain ⟨g, hg, kk, T5⟩ := hp
          rw [doCut_ok HU.out, if_neg (Int.not_lt.2 H1.out), if_neg (Int.not_lt.2 H2.out), Int.toNat_natCast]
          have hks := (fresh_far k1).size
          have hg' : w.heap.size ≤ g := Nat.le_trans hks hg
          exact ⟨rfl, { L with dv := fun x => if x = a then .slice (some ⟨g, 0, none⟩) m m else L.dv x }, rfl, T5.mono (Nat.le_succ _), ((fresh_far k1).keep (S := Foot L t)).drew.trans kk fun i _ hi => hi ▸ foot_nb ha0, fun q hq => foot_dv (x := ⟨(t a).kind, (t a).links, sized (t a).data m, (t a).entries⟩) HT.out ha0 rfl hg' hq⟩
end Go.Proofs.YtlkiaghpdjbfeaaGreatDoor
