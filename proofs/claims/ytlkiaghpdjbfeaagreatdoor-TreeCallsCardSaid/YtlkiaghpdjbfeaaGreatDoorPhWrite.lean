/-
  The program's write.
-/
import Derived.Test.YtlkiaghpdjbfeaaGreatDoorPhResize
namespace Go.Proofs.YtlkiaghpdjbfeaaGreatDoor
open Go.RowKit Go.Maps

/-- A file's bytes have turned where they lie. -/
theorem TreeAt.set_bytes {w w' : World} {L : Lay} {N : Nat} {t : Tr} (h : TreeAt w L N t) {a g : Nat} (ha : (t a).kind ≠ 0) (hg : (L.dv a).ownBlock = some g) (k : Keep (fun b => b = g) w w') (data : Txt) (hv : Own 5 w' (L.dv a) data) :
    TreeAt w' L N (t.bytes a data) := by
  have hkind : ∀ n, ((t.bytes a data) n).kind = (t n).kind := fun n => by
    unfold Tr.bytes Tr.set
    split
    · next e => rw [e]
    · rfl
  have hlinks : ∀ n, ((t.bytes a data) n).links = (t n).links := fun n => by
    unfold Tr.bytes Tr.set
    split
    · next e => rw [e]
    · rfl
  have hents : ∀ n, ((t.bytes a data) n).entries = (t n).entries := fun n => by
    unfold Tr.bytes Tr.set
    split
    · next e => rw [e]
    · rfl
  constructor
  · exact (k.block _ (h.lt (.inl rfl)) fun e => h.dv_ne_tb ha (by rw [hg, ← e])).trans h.tree
  · refine (h.map.kept k fun e => h.dv_ne_mb ha (by rw [hg, ← e])).congr fun x xl hx => ?_
    obtain ⟨z, _, rfl, _⟩ := Maps.keyOf_i64 Tryz.underlying3 hx
    simp only [nodeF, hkind]
  · intro n hn
    rw [hkind] at hn
    have : entV L (t.bytes a data) n = entV L t n := by unfold entV; rw [hkind]
    rw [this, hkind, hlinks]
    exact (k.block _ (h.lt (.inr (.inr ⟨n, hn, .inl rfl⟩))) fun e => h.dv_ne_nb ha hn (by rw [hg, ← e])).trans (h.node n hn)
  · intro n hn
    rw [hkind] at hn
    rw [hents]
    exact (h.dir n hn).kept k fun e => h.dv_ne_eb ha hn (by rw [hg, ← e])
  · intro n hn
    rw [hkind] at hn
    by_cases e : n = a
    · subst e
      unfold Tr.bytes
      rw [Tr.set_same]
      exact hv
    · unfold Tr.bytes
      rw [Tr.set_other e]
      exact (h.data n hn).kept k fun b hb e' => e (h.dvi n a hn ha b hb (by rw [hg, e']))
  · intro n m hn hm
    rw [hkind] at hn hm
    exact h.nbi n m hn hm
  · intro n m hn hm
    rw [hkind] at hn hm
    exact h.ebi n m hn hm
  · intro n hn
    rw [hkind] at hn
    exact h.ebm n hn
  · intro n m hn hm
    rw [hkind] at hn hm
    exact h.dvi n m hn hm

theorem doWrite_err' {t : Tr} {s : Txt} {off : Int} {d : Txt} {k : Nat} (h : findFile t s = .error k) : doWrite t s off d = (errA k, t) := by unfold doWrite; rw [h]
theorem doWrite_ok {t : Tr} {s : Txt} {off : Int} {d : Txt} {a : Nat} (h : findFile t s = .ok a) : doWrite t s off d = if off < 0 ∨ 256 < d.length then (errA 1, t) else if 512 < off.toNat + d.length then (errA 27, t) else (okA, t.bytes a (written (t a).data off.toNat d)) := by unfold doWrite; rw [h]
theorem Tr.bytes_same (t : Tr) (a : Nat) : t.bytes a (t a).data = t := by
  funext n
  unfold Tr.bytes Tr.set
  split
  · next e => rw [e]
  · rfl

set_option maxRecDepth 100000 in
set_option maxHeartbeats 4000000 in
theorem write_any (kind off n : Int) (s o : ByteArray) (A : Option Addr) (k0 c0 : Nat) (d : Txt) (w : World) (L : Lay) (N : Nat) (t : Tr) (hT : TreeAt w L N t) (g : Good t) (hs : s.size ≤ 1000000) (he : Env w)
    (hk0 : k0 = d.length) (hkb : k0 ≤ 1000000) (B : Nat) (hd : Rd w B A d) (hB : B ≤ w.heap.size) (hBf : ∀ a : Addr, A = some a → 0 < d.length → ¬ Foot L t a.block) :
    Calls Tryz.prog 51 #[.pointer (some ⟨L.tb, 0, none⟩), .agg (callC kind off n s o (.slice A k0 c0))] w (Changed L N t (doWrite t s.data.toList off d) w) := by
  have kA : ∀ X, KF w (w.alloc X) := fun X => (KF.refl w).alloc X
  have HC := Lib.hid fun X => findFile_any s (w.alloc X) L N t (hT.far (kA X)) g hs (he.kept (kA X))
  have HT := Lib.hid hT
  have HG := Lib.hid g
  have HD := Lib.hid hd
  have HK := Lib.hid hk0
  clear hT g hd hk0
  go_enter Tryz.func51, Tryz.ntmps51
  go_wp2_with fail
  refine (HC.out _).mono ?_
  rintro e w1 ⟨k1, ⟨k, hk, hk0, rfl⟩ | ⟨a, hf, ha2, rfl⟩⟩
  · have HU := Lib.hid hk
    have h0 : ((k : Int) != 0) = true := bne_iff_ne.2 (by omega)
    clear hk
    go_wp2_with fail
    go_ret
    exact Changed.err HT.out (fresh_far k1) (doWrite_err' HU.out)
  · have HU := Lib.hid hf
    clear hf
    have c3 := fresh_cell k1 3 rfl
    have c5 := fresh_cell k1 5 rfl
    have T1 := HT.out.far (fresh_far k1)
    have ct := T1.cell_tree
    have ha0 : (t a).kind ≠ 0 := by omega
    have ha64 := HG.out.lt ha0
    by_cases hn : off < 0
    · have HR : Hid (doWrite t s.data.toList off d = (errA 1, t)) := Lib.hid (by rw [doWrite_ok HU.out, if_pos (.inl hn)])
      go_wp2_with fail
      go_ret
      exact Changed.err (c := 1) HT.out (fresh_far k1) HR.out
    · by_cases h256 : (256 : Int) < (k0 : Int)
      · have HR : Hid (doWrite t s.data.toList off d = (errA 1, t)) := Lib.hid (by rw [doWrite_ok HU.out, if_pos (.inr (by rw [← HK.out]; omega))])
        go_wp2_with fail
        go_ret
        exact Changed.err (c := 1) HT.out (fresh_far k1) HR.out
      · obtain ⟨m, rfl⟩ : ∃ m : Nat, off = m := ⟨off.toNat, by omega⟩
        by_cases h512 : (512 : Int) - (k0 : Int) < (m : Int)
        · have HR : Hid (doWrite t s.data.toList m d = (errA 27, t)) := Lib.hid (by
            rw [doWrite_ok HU.out, if_neg (by rw [← HK.out]; omega), Int.toNat_natCast, if_pos (by rw [← HK.out]; omega)])
          go_wp2_with fail
          go_ret
          exact Changed.err (c := 27) HT.out (fresh_far k1) HR.out
        · have hle : m + k0 ≤ 512 := by omega
          have HR : Hid (doWrite t s.data.toList m d = (okA, t.bytes a (written (t a).data m d))) := Lib.hid (by
            rw [doWrite_ok HU.out, if_neg (by rw [← HK.out]; omega), Int.toNat_natCast, if_neg (by rw [← HK.out]; omega)])
          by_cases hz : k0 = 0
          · have hd0 : d = [] := List.eq_nil_of_length_eq_zero (by rw [← HK.out]; exact hz)
            subst hz
            go_wp2_with fail
            go_ret
            refine Changed.quiet HT.out (fresh_far k1) ?_
            rw [HR.out, written, if_pos hd0, Tr.bytes_same]
          · have hz' : ((k0 : Int) == 0) = false := beq_eq_false_iff_ne.2 (by omega)
            have ln0 := T1.look_yes (n := a) (by omega) ha0
            have cd := T1.cell_data ha0
            obtain ⟨A0, cc, hv, hlc, hcm, hrd, hob⟩ := (T1.data a ha0).shape
            have hb512 := (HG.out.file a ha2).2
            rw [hv] at cd
            obtain ⟨ld, hld⟩ : ∃ ld, (t a).data.length = ld := ⟨_, rfl⟩
            rw [hld] at cd hb512 hlc
            obtain ⟨sz, hsz⟩ : ∃ sz, max ld (m + k0) = sz := ⟨_, rfl⟩
            have hmax : max (ld : Int) (IntKind.i64.wrap ((m : Int) + (k0 : Int))) = (sz : Int) := by
              rw [show IntKind.i64.wrap ((m : Int) + (k0 : Int)) = (m : Int) + (k0 : Int) from IntWalk.i64_in _ ⟨by omega, by omega⟩]
              omega
            have hmk0 : m + k0 ≤ sz := by omega
            have hfoot := fun q (hq : Foot L t q) => HT.out.lt hq
            have HRS : Hid (∀ wx, KF w1 wx → Calls Tryz.prog 91 #[.pointer (some ⟨L.nb a, 0, none⟩), .int .i64 (max (ld : Int) (IntKind.i64.wrap ((m : Int) + (k0 : Int))))] wx fun e w' =>
                ∃ g : Nat, e = .returned (.tuple #[]) ∧ w'.cell? ⟨L.nb a, 3, none⟩ = some (.slice (some ⟨g, 0, none⟩) sz sz) ∧ w'.cell? ⟨w.heap.size, 3, none⟩ = some (.int .i64 (m : Int)) ∧ w'.cell? ⟨w.heap.size, 5, none⟩ = some (.slice A k0 c0) ∧
                  ∃ w4 : World, (Builtin.copy_ #[29, 29] 3 #[.slice (some ⟨g, m, none⟩) (sz - m) (sz - m), .slice A k0 c0]).run Tryz.prog w'.drew = .ok (goInt (k0 : Int)) w4 ∧
                  Hid (Keep (Foot L t) w w4 ∧ w.heap.size ≤ g ∧ TreeAt w4 { L with dv := fun x => if x = a then .slice (some ⟨g, 0, none⟩) sz sz else L.dv x } N (t.bytes a (written (t a).data m d)))) := by
              refine Lib.hid fun wx kx => ?_
              rw [hmax]
              refine (resize_any wx L N t a sz (T1.far kx) ha0 (by omega)).mono ?_
              rintro e w' ⟨rfl, g, hg, kk, T5⟩
              have kwx := KF.trans (fresh_far k1) kx
              have hsx := kwx.size
              have hua : (t.set a ⟨(t a).kind, (t a).links, sized (t a).data sz, (t a).entries⟩) a = ⟨(t a).kind, (t a).links, sized (t a).data sz, (t a).entries⟩ := Tr.set_same _ _
              have huk : ((t.set a ⟨(t a).kind, (t a).links, sized (t a).data sz, (t a).entries⟩) a).kind ≠ 0 := by rw [hua]; exact ha0
              have q3 := T5.cell_data huk
              have o5 := T5.drew1.data a huk
              simp only [if_true, hua] at q3 o5
              have hnb : w.heap.size ≠ L.nb a := fun e => by have := hfoot _ (foot_nb (L := L) ha0); omega
              have hlt1 : w.heap.size < w1.heap.size := Nat.lt_of_lt_of_le (show w.heap.size < (w.alloc (.cells (callC kind m n s o (.slice A k0 c0)) 31)).heap.size by simp) k1.size
              have hltx := Nat.lt_of_lt_of_le hlt1 kx.size
              have cell5 : ∀ j, w'.cell? ⟨w.heap.size, j, none⟩ = w1.cell? ⟨w.heap.size, j, none⟩ := fun j => (Keep.cell kk (p := ⟨w.heap.size, j, none⟩) hltx hnb).trans (KF.cell kx hlt1)
              have hr5 : Rd w'.drew B A d := by
                rcases Nat.eq_zero_or_pos d.length with hd0 | hd0
                · rw [List.eq_nil_of_length_eq_zero hd0]; exact Rd.nil
                · exact ((HD.out.keepF kwx hB).keepS (Nat.le_trans hB hsx) kk fun a' ha' e => hBf a' ha' hd0 (by rw [e]; exact foot_nb ha0)).drew
              obtain ⟨w4, hcp, ho4, k4⟩ := run_copy_u8 u8_law 29 3 w'.drew g sz sz m (sized (t a).data sz) d o5 (some ⟨g, m, none⟩) (sz - m) (by omega) B A k0 c0 HK.out hr5 k0 (by omega) fun _ => rfl
              rw [List.take_of_length_le (by rw [← HK.out]; omega)] at ho4
              refine ⟨g, rfl, q3, (cell5 3).trans c3, (cell5 5).trans c5, w4, hcp, Lib.hid ⟨?_, by omega, ?_⟩⟩
              · refine Keep.trans (((kwx.keep (S := Foot L t)).trans kk fun i _ hi => hi ▸ foot_nb ha0).drew) k4 fun i hi e => ?_
                subst e
                omega
              · have hgb : ({ L with dv := fun x => if x = a then .slice (some ⟨g, 0, none⟩) sz sz else L.dv x } : Lay).dv a = .slice (some ⟨g, 0, none⟩) sz sz := if_pos rfl
                have T6 := T5.drew1.set_bytes huk (by rw [hgb]; rfl) k4 (over (sized (t a).data sz) m d) (by rw [hgb]; exact ho4)
                have hwr : written (t a).data m d = over (sized (t a).data sz) m d := by
                  unfold written
                  rw [if_neg (fun h => hz (by rw [HK.out, h]; rfl)), hld, ← HK.out, hsz]
                rw [hwr]
                have hbb : (t.set a ⟨(t a).kind, (t a).links, sized (t a).data sz, (t a).entries⟩).bytes a (over (sized (t a).data sz) m d) = t.bytes a (over (sized (t a).data sz) m d) := by
                  unfold Tr.bytes
                  rw [hua, Tr.set_set]
                rw [hbb] at T6
                exact T6
            have HLD := Lib.hid hld
            have HSZ := Lib.hid hsz
            have hne : ¬ sz = m := by omega
            clear hrd hob hld hsz hv hmax
            go_upto_region 11 with fail
            go_cut [] (fun w5 => ∃ g : Nat, w5.cell? ⟨L.nb a, 3, none⟩ = some (.slice (some ⟨g, 0, none⟩) sz sz) ∧ w5.cell? ⟨w.heap.size, 3, none⟩ = some (.int .i64 (m : Int)) ∧ w5.cell? ⟨w.heap.size, 5, none⟩ = some (.slice A k0 c0) ∧
                  ∃ w4 : World, (Builtin.copy_ #[29, 29] 3 #[.slice (some ⟨g, m, none⟩) (sz - m) (sz - m), .slice A k0 c0]).run Tryz.prog w5.drew = .ok (goInt (k0 : Int)) w4 ∧
                  Hid (Keep (Foot L t) w w4 ∧ w.heap.size ≤ g ∧ TreeAt w4 { L with dv := fun x => if x = a then .slice (some ⟨g, 0, none⟩) sz sz else L.dv x } N (t.bytes a (written (t a).data m d))))
            case first =>
              go_region_with (go_at_call 91; refine (HRS.out _ ?_).mono ?_; (first | exact KF.refl _ | exact (KF.refl _).drew | exact (KF.refl _).drewN _); rintro e w5 ⟨g, rfl, q3, r3, r5, w4, hcp, hp⟩)
              all_goals (go_wp2_with fail; go_meet; exact ⟨g, q3, r3, r5, w4, hcp, hp⟩)
            case rest =>
              obtain ⟨g, q3, r3, r5, w4, hcp, hp⟩ := hcut
              go_upto_region 12 with fail
              go_region
              go_wp2_with fail
              go_ret
              obtain ⟨kk, hg, T4⟩ := hp.out
              rw [HR.out]
              exact ⟨rfl, { L with dv := fun x => if x = a then .slice (some ⟨g, 0, none⟩) sz sz else L.dv x }, rfl, T4.mono (Nat.le_succ _), kk, fun q hq => foot_dv (x := ⟨(t a).kind, (t a).links, written (t a).data m d, (t a).entries⟩) HT.out ha0 rfl hg hq⟩
end Go.Proofs.YtlkiaghpdjbfeaaGreatDoor
