/-
  The program's newNode, New, add.
-/
import Derived.Test.YtlkiaghpdjbfeaaGreatDoorPhUnlink
import Derived.Carry
namespace Go.Proofs.YtlkiaghpdjbfeaaGreatDoor
open Go.RowKit Go.Maps

/-- A new node's block. -/
def NewNode (kind b e : Nat) (w : World) : Prop :=
  w.heap[b]? = some (.cells #[.int .i64 (kind : Int), .int .i64 1, if kind = 1 then .map (some e) else .map none, .slice none 0 0] 72) ∧ (kind = 1 → MapV Tryz.prog 9 w e 0 fun _ => none)

theorem newNode_any (kind : Nat) (hk : kind = 1 ∨ kind = 2) (w : World) :
    Calls Tryz.prog 21 #[.int .i64 (kind : Int)] w fun e w' => ∃ b x, e = .returned (.pointer (some ⟨b, 0, none⟩)) ∧ KF w w' ∧ w.heap.size ≤ b ∧ w.heap.size ≤ x ∧ NewNode kind b x w' := by
  have hmm := @run_makeMap Tryz.prog
  rcases hk with rfl | rfl
  · go_enter Tryz.func21, Tryz.ntmps21
    go_wp2_with fail
    go_ret
    refine ⟨w.heap.size, w.heap.size + 1, rfl, ((KF.refl w).alloc _).alloc _, Nat.le_refl _, Nat.le_succ _, ?_, fun _ => ?_⟩
    · rw [heap_alloc_old _ _ (by simp)]
      exact heap_alloc_new w _
    · have := MapV.made Tryz.prog 9 (w.alloc (.cells #[.int .i64 1, .int .i64 1, .map (some (w.heap.size + 1)), .slice none 0 0] 72))
      rw [show (w.alloc (.cells #[.int .i64 1, .int .i64 1, .map (some (w.heap.size + 1)), .slice none 0 0] 72)).heap.size = w.heap.size + 1 by simp] at this
      exact this
  · go_enter Tryz.func21, Tryz.ntmps21
    go_wp2_with fail
    go_ret
    exact ⟨w.heap.size, w.heap.size, rfl, (KF.refl w).alloc _, Nat.le_refl _, Nat.le_refl _, heap_alloc_new w _, fun h => by cases h⟩

theorem NewNode.keep {kind b e : Nat} {w w' : World} {S : Nat → Prop} (h : NewNode kind b e w) (k : Keep S w w') (hb : ¬ S b) (he : kind = 1 → ¬ S e) : NewNode kind b e w' :=
  ⟨(k.block _ (Array.getElem?_eq_some_iff.1 h.1).1 hb).trans h.1, fun hk => (h.2 hk).kept k (he hk)⟩

theorem TreeAt.new {w : World} {tb mb b e : Nat} (ht : w.heap[tb]? = some (.cells #[.map (some mb)] 52)) (hm : MapV Tryz.prog 3 w mb 1 (upd (fun _ => none) (.int .i64 0) (some (.pointer (some ⟨b, 0, none⟩)))))
    (hn : NewNode 1 b e w) (hne : e ≠ mb) : TreeAt w ⟨tb, mb, fun _ => b, fun _ => e, fun _ => .slice none 0 0⟩ 1 newT := by
  have h0 : ∀ n, (newT n).kind ≠ 0 → n = 0 := fun n hn => by
    unfold newT at hn
    split at hn
    · assumption
    · exact absurd rfl hn
  have h1 : ∀ n, (newT n).kind = 1 → n = 0 := fun n hn => h0 n (by omega)
  have e0 : newT 0 = ⟨1, 1, [], []⟩ := rfl
  constructor
  · exact ht
  · refine hm.congr fun x xl hx => ?_
    obtain ⟨z, _, rfl, _⟩ := Maps.keyOf_i64 Tryz.underlying3 hx
    by_cases hz : z = 0
    · subst hz
      rw [upd_same]
      rfl
    · rw [upd_other _ fun he => hz (by injection he)]
      simp only [nodeF]
      rw [if_neg]
      rintro ⟨h, h'⟩
      have := h0 _ h'
      omega
  · intro n hk
    obtain rfl := h0 n hk
    exact hn.1
  · intro n hk
    obtain rfl := h1 n hk
    exact ((hn.2 rfl).mono (Nat.zero_le _)).congr fun v kl _ => by cases kl <;> rfl
  · intro n hk
    obtain rfl := h0 n hk
    exact Own.nil _ _
  · intro n m hk hk' _
    rw [h0 n hk, h0 m hk']
  · intro n m hk hk' _
    rw [h1 n hk, h1 m hk']
  · intro n _
    exact hne
  · intro n m hk hk' q h
    simp [Value.ownBlock] at h

set_option maxRecDepth 100000 in
theorem new_any (w : World) : Calls Tryz.prog 8 #[] w fun e w' => ∃ L : Lay, e = .returned (.pointer (some ⟨L.tb, 0, none⟩)) ∧ TreeAt w' L 1 newT ∧ KF w w' ∧ ∀ k, Foot L newT k → w.heap.size ≤ k := by
  have hmm := @run_makeMap Tryz.prog
  have hlaw := TreeAt.int_law
  have C : Hid (Calls Tryz.prog 21 #[.int .i64 1] (w.alloc (.map #[] 0)) fun e w' => ∃ b w2, e = .returned (.pointer (some ⟨b, 0, none⟩)) ∧
      (Instr.mapUpdate 50 (.map (some w.heap.size)) (.int .i64 0) (.pointer (some ⟨b, 0, none⟩))).run Tryz.prog w' = .ok () w2 ∧
      Hid (∃ x, KF w w2 ∧ w.heap.size < w2.heap.size ∧ w.heap.size < b ∧ w.heap.size < x ∧ NewNode 1 b x w2 ∧ MapV Tryz.prog 3 w2 w.heap.size 1 (upd (fun _ => none) (.int .i64 0) (some (.pointer (some ⟨b, 0, none⟩)))))) := by
    refine Lib.hid ((newNode_any 1 (.inl rfl) (w.alloc (.map #[] 0))).mono ?_)
    rintro e w' ⟨b, x, rfl, k, hb, hx, hn⟩
    have hsz : (w.alloc (.map #[] 0)).heap.size = w.heap.size + 1 := by simp
    have hm := (MapV.made Tryz.prog 3 w).kept k fun h => h
    obtain ⟨w2, hr, hm2, ht⟩ := hm.store (val := .pointer (some ⟨b, 0, none⟩)) hlaw Tryz.underlying50 (by simp only [maxLen]; omega) (keyOf_int_mk Tryz.underlying3 (show (Lit.int .i64 0).wf = true by decide))
    have kt := Keep.turned ht
    have k2 : KF w w2 := Keep.trans (KF.trans ((KF.refl w).alloc _) k) kt fun i hi he => by subst he; omega
    refine ⟨b, w2, rfl, hr, Lib.hid ⟨x, k2, ?_, by omega, by omega, hn.keep kt (by omega) (fun _ => by omega), hm2⟩⟩
    have := k.size
    have := kt.size
    omega
  go_enter Tryz.func8, Tryz.ntmps8
  go_wp2_with fail
  refine C.out.mono ?_
  rintro e w1 ⟨b, w2, rfl, hr, hp⟩
  go_wp2_with fail
  go_ret
  obtain ⟨x, k2, hs, hb, hx, hn, hm⟩ := hp.out
  have kA : KF w2 (w2.alloc (.cells #[.map (some w.heap.size)] 52)) := (KF.refl w2).alloc _
  refine ⟨⟨w2.heap.size, w.heap.size, fun _ => b, fun _ => x, fun _ => .slice none 0 0⟩, rfl, ?_, KF.trans k2 kA, ?_⟩
  · exact TreeAt.new (heap_alloc_new w2 _) (hm.kept kA fun h => h) (hn.keep kA (fun h => h) fun _ h => h) (by omega)
  · rintro k (h | h | ⟨n, hn, h | ⟨_, h⟩ | h⟩)
    · rw [h]; show w.heap.size ≤ w2.heap.size; omega
    · rw [h]; exact Nat.le_refl _
    · rw [h]; show w.heap.size ≤ b; omega
    · rw [h]; show w.heap.size ≤ x; omega
    · simp [Value.ownBlock] at h

/-- How many nodes there are. -/
def numbers (t : Tr) : List Int := List.map (fun n : Nat => (n : Int)) (List.filter (fun n : Nat => decide ((t n).kind ≠ 0)) (List.range 64))
theorem numbers_nodup (t : Tr) : (numbers t).Nodup := List.pairwise_map.2 ((List.Pairwise.filter _ List.nodup_range).imp fun h e => h (by omega))
theorem mem_numbers {t : Tr} {z : Int} : z ∈ numbers t ↔ 0 ≤ z ∧ z < 64 ∧ (t z.toNat).kind ≠ 0 := by
  unfold numbers
  rw [List.mem_map]
  constructor
  · rintro ⟨n, hn, rfl⟩
    rw [List.mem_filter, List.mem_range] at hn
    exact ⟨by omega, by omega, by simpa using hn.2⟩
  · rintro ⟨h1, h2, h3⟩
    exact ⟨z.toNat, List.mem_filter.2 ⟨List.mem_range.2 (by omega), by simpa using h3⟩, by omega⟩
theorem numbers_full {t : Tr} : (numbers t).length = 64 ↔ least t = none := by
  unfold numbers least
  rw [List.length_map, List.find?_eq_none]
  have hl : (List.range 64).length = 64 := List.length_range
  constructor
  · intro h n hn
    have := (List.length_filter_eq_length_iff (p := fun n => decide ((t n).kind ≠ 0)) (l := List.range 64)).1 (by rw [h, hl]) n hn
    simpa using this
  · intro h
    rw [(List.length_filter_eq_length_iff (p := fun n => decide ((t n).kind ≠ 0)) (l := List.range 64)).2 fun n hn => by simpa using h n hn, hl]
theorem TreeAt.len_nodes {w : World} {L : Lay} {N : Nat} {t : Tr} (h : TreeAt w L N t) (g : Good t) (ty : TypeId) : (Builtin.len_ #[50] ty #[.map (some L.mb)]).run Tryz.prog w = .ok (.int .i64 ((numbers t).length : Int)) w :=
  h.map.len_ints TreeAt.int_law Tryz.underlying3 Tryz.underlying50 (numbers_nodup t) (fun x hx => by
    obtain ⟨h1, h2, _⟩ := mem_numbers.1 hx
    exact WalkArith.wf_i64 (by omega)) (fun x _ => by
    rw [mem_numbers]
    simp only [nodeF]
    by_cases hx : 0 ≤ x ∧ (t x.toNat).kind ≠ 0
    · rw [if_pos hx]
      have := g.lt hx.2
      simp [hx.1, hx.2]
      omega
    · rw [if_neg hx]
      simp
      intro h1 _
      exact Classical.not_not.1 fun h2 => hx ⟨h1, h2⟩) ty

theorem doMake_err' {t : Tr} {k : Nat} {s : Txt} {c : Nat} (h : place t s = .error c) : doMake t k s = (errA c, t) := by unfold doMake; rw [h]
theorem doMake_full {t : Tr} {k : Nat} {s : Txt} {d : Nat} {x : Txt} (h : place t s = .ok (d, x)) (hl : least t = none) : doMake t k s = (errA 27, t) := by
  unfold doMake; rw [h]; simp only [hl]
theorem doMake_ok {t : Tr} {k : Nat} {s : Txt} {d n : Nat} {x : Txt} (h : place t s = .ok (d, x)) (hl : least t = some n) : doMake t k s = (okA, (t.set n ⟨k, 1, [], []⟩).rows d (put (t d).entries x n)) := by
  unfold doMake; rw [h]; simp only [hl]

/-- The layout with a node more. -/
def Lay.more (L : Lay) (n b e : Nat) : Lay := { L with nb := fun m => if m = n then b else L.nb m, eb := fun m => if m = n then e else L.eb m, dv := fun m => if m = n then .slice none 0 0 else L.dv m }

set_option maxRecDepth 100000 in
set_option maxHeartbeats 4000000 in
theorem add_any (kind : Nat) (hk12 : kind = 1 ∨ kind = 2) (s : ByteArray) (w : World) (L : Lay) (N : Nat) (t : Tr) (hT : TreeAt w L N t) (g : Good t) (hs : s.size ≤ 1000000) (he : Env w) (hN : N ≤ 1000000) :
    Calls Tryz.prog 46 #[.pointer (some ⟨L.tb, 0, none⟩), .string s, .int .i64 (kind : Int)] w (Changed L N t (doMake t kind s.data.toList) w) := by
  have HC := Lib.hid (findPlace_any s w L N t hT g hs he)
  have HT := Lib.hid hT
  have HG := Lib.hid g
  clear hT g
  go_enter Tryz.func46, Tryz.ntmps46
  go_wp2_with fail
  refine HC.out.mono ?_
  rintro e w1 ⟨k1, ⟨k, hk, hk0, rfl⟩ | ⟨d, x, hp, hd1, hx, rfl⟩⟩
  · have HU := Lib.hid hk
    have h0 : ((k : Int) != 0) = true := bne_iff_ne.2 (by omega)
    clear hk
    go_wp2_with fail
    go_ret
    exact Changed.err HT.out (k1.alloc _) (doMake_err' HU.out)
  · have HU := Lib.hid hp
    have hl16 := hx.2.2.1
    clear hp hx
    have T1 := HT.out.far k1
    obtain ⟨w2, hw2⟩ : ∃ w2, w1.alloc (.cells #[.pointer (some ⟨L.nb d, 0, none⟩), .string (ba x)] 138) = w2 := ⟨_, rfl⟩
    have k2 : KF (w1.alloc (.cells #[.pointer (some ⟨L.nb d, 0, none⟩), .string (ba x)] 138)) w2 := hw2 ▸ KF.refl _
    have hlt2 := Nat.lt_of_lt_of_le (show w1.heap.size < (w1.alloc (.cells #[.pointer (some ⟨L.nb d, 0, none⟩), .string (ba x)] 138)).heap.size by simp) k2.size
    have d0 := fresh_cell k2 0 rfl
    have d1 := fresh_cell k2 1 rfl
    have T2 := T1.far (fresh_far k2)
    have kw2 := KF.trans k1 (fresh_far k2)
    have HW := Lib.hid hw2
    have ct := T2.cell_tree
    have lc := T2.len_nodes HG.out 3
    clear hw2
    rcases hle : least t with _ | n
    · have HL := Lib.hid hle
      have h64 := numbers_full.2 hle
      rw [h64] at lc
      clear hle
      go_upto_region 4 with fail
      rw [HW.out]
      go_wp2_with fail
      go_ret
      exact Changed.err (c := 27) HT.out kw2 (doMake_full HU.out HL.out)
    · have HL := Lib.hid hle
      have h64 : (((numbers t).length : Int) == 64) = false := beq_eq_false_iff_ne.2 fun h => by
        have := numbers_full.1 (show (numbers t).length = 64 by omega)
        rw [this] at hle
        cases hle
      obtain ⟨hn0, hn64⟩ := least_ok hle
      have HFR := Lib.hid (free_any w2 L N t n T2 hle)
      have hdn : d ≠ n := fun e => by rw [e] at hd1; omega
      clear hle
      have HN : Hid (∀ wx, KF w2 wx → Calls Tryz.prog 21 #[.int .i64 (kind : Int)] wx fun e w' => ∃ b w3, e = .returned (.pointer (some ⟨b, 0, none⟩)) ∧
          (Instr.mapUpdate 50 (.map (some L.mb)) (.int .i64 (n : Int)) (.pointer (some ⟨b, 0, none⟩))).run Tryz.prog w' = .ok () w3 ∧
          w'.cell? ⟨L.tb, 0, none⟩ = some (.map (some L.mb)) ∧ w3.cell? ⟨w1.heap.size, 0, none⟩ = some (.pointer (some ⟨L.nb d, 0, none⟩)) ∧ w3.cell? ⟨w1.heap.size, 1, none⟩ = some (.string (ba x)) ∧ w3.cell? ⟨L.nb d, 2, none⟩ = some (.map (some (L.eb d))) ∧
          ∃ w4, (Instr.mapUpdate 70 (.map (some (L.eb d))) (.string (ba x)) (.int .i64 (n : Int))).run Tryz.prog w3.drew = .ok () w4 ∧
          Hid (∃ y, Keep (Foot L t) w w4 ∧ w2.heap.size ≤ b ∧ w2.heap.size ≤ y ∧ TreeAt w4 (L.more n b y) (N + 1) ((t.set n ⟨kind, 1, [], []⟩).rows d (put (t d).entries x n)))) := by
        refine Lib.hid fun wx kx => (newNode_any kind hk12 wx).mono ?_
        rintro e w' ⟨b, y, rfl, k', hb, hy, hn⟩
        have Tx := T2.far (KF.trans kx k')
        obtain ⟨w3, hr, hm3, ht3⟩ := Tx.map.store (val := .pointer (some ⟨b, 0, none⟩)) TreeAt.int_law Tryz.underlying50 (by simp only [maxLen]; omega) (keyOf_int_mk Tryz.underlying3 (wf_node (n := n) (by omega)))
        have k3 := Keep.turned ht3
        have hxs := kx.size
        have hfoot : ∀ q, Foot L t q → q < w2.heap.size := fun q hq => T2.lt hq
        have T3 : TreeAt w3 (L.more n b y) (N + 1) (t.set n ⟨kind, 1, [], []⟩) := Tx.come n hn0 kind hk12 k3 (Nat.le_succ N) b y hn.1
          ⟨fun h => by have := hfoot _ h; omega, fun h => ⟨hn.2 h, fun h' => by have := hfoot _ h'; omega⟩⟩ hm3
        have kk : Keep (Foot L t) w w3 := ((kw2.keep (S := Foot L t)).trans (KF.trans kx k') fun _ _ h => h.elim).trans k3 fun i _ hi => hi ▸ foot_mb
        have hmb := hfoot _ (foot_mb (L := L) (t := t))
        have hks := k'.size
        have cell3 : ∀ p : Addr, p.block < w2.heap.size → p.block ≠ L.mb → w3.cell? p = w2.cell? p := fun p hp hne => by
          rw [Keep.cell k3 (by omega) hne, KF.cell (KF.trans kx k') hp]
        have hne : w1.heap.size ≠ L.mb := fun e => by
          have := T1.lt (foot_mb (L := L) (t := t))
          omega
        have hd3 : ((t.set n ⟨kind, 1, [], []⟩) d).kind = 1 := by rw [Tr.set_other hdn]; exact hd1
        have cd3 := T3.cell_dir hd3
        have e1 : (L.more n b y).nb d = L.nb d := if_neg hdn
        have e2 : (L.more n b y).eb d = L.eb d := if_neg hdn
        rw [e1, e2] at cd3
        have hd0 := (Tx.dir d hd1).kept k3 (Tx.ebm d hd1)
        have hdd : MapV Tryz.prog 9 w3.drew (L.eb d) N (dirF (t d).entries) := hd0.kept (S := fun _ => False) (KF.refl w3).drew fun h => h
        obtain ⟨w4, hr4, hm4, ht4⟩ := hdd.store (val := .int .i64 (n : Int)) TreeAt.str_law Tryz.underlying70 (by simp only [maxLen]; omega) (Go.WideMaps.keyOf_string_mk Tryz.underlying9 (s := ba x) (by rw [ba_size]; simp only [maxLen]; omega))
        have k4 := Keep.turned ht4
        have T4 := T3.drew1.dir_turn hd3 (w' := w4) (by rw [e2]; exact k4) (Nat.le_refl _) (put (t d).entries x n) (by rw [e2, put_dirF]; exact hm4)
        refine ⟨b, w3, rfl, hr, Tx.cell_tree, (cell3 _ hlt2 hne).trans d0, (cell3 _ hlt2 hne).trans d1, cd3, w4, hr4, Lib.hid ⟨y, ?_, by omega, by omega, T4⟩⟩
        exact kk.drew.trans k4 fun i _ hi => hi ▸ foot_eb hd1
      clear d0 d1
      go_upto_region 4 with fail
      rw [HW.out]
      go_wp2_with fail
      refine HFR.out.mono ?_
      rintro e w3 ⟨rfl, rfl⟩
      go_upto_region 7 with fail
      go_region_with (go_at_call 21; refine (HN.out _ ?_).mono ?_; (first | exact KF.refl _ | exact (KF.refl _).drew | exact (KF.refl _).drewN _); rintro e w5 ⟨b, w6, rfl, hr, hct, c0, c1, cd, w4, hr4, hp⟩)
      all_goals go_upto_region 8 with fail
      all_goals go_region
      all_goals go_wp2_with fail
      all_goals go_ret
      all_goals
        rw [doMake_ok HU.out HL.out]
        obtain ⟨y, kk, hb, hy, T4⟩ := hp.out
        refine ⟨rfl, L.more n b y, rfl, T4, kk, fun q hq => ?_⟩
        have hws := kw2.size
        rcases foot_rows.1 hq with h | h | ⟨m, hm, h⟩
        · exact .inl (.inl h)
        · exact .inl (.inr (.inl h))
        · by_cases hmn : m = n
          · subst hmn
            rcases h with h | ⟨_, h⟩ | h
            · rw [h]; exact .inr (by show w.heap.size ≤ (if m = m then b else _); rw [if_pos rfl]; omega)
            · rw [h]; exact .inr (by show w.heap.size ≤ (if m = m then y else _); rw [if_pos rfl]; omega)
            · have h' : (if m = m then Value.slice none 0 0 else L.dv m).ownBlock = some q := h
              rw [if_pos rfl] at h'
              simp [Value.ownBlock] at h'
          · rw [Tr.set_other hmn] at hm h
            refine .inl (.inr (.inr ⟨m, hm, ?_⟩))
            rcases h with h | ⟨h1, h⟩ | h
            · exact .inl (h.trans (if_neg hmn))
            · exact .inr (.inl ⟨h1, h.trans (if_neg hmn)⟩)
            · have h' : (if m = n then Value.slice none 0 0 else L.dv m).ownBlock = some q := h
              rw [if_neg hmn] at h'
              exact .inr (.inr h')
end Go.Proofs.YtlkiaghpdjbfeaaGreatDoor
