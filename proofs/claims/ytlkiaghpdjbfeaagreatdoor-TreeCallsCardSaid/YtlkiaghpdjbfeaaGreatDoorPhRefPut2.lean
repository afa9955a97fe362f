/-
  The reference's put.
-/
import Derived.Test.YtlkiaghpdjbfeaaGreatDoorPk1
import Derived.Deep.QuietTactic
import Derived.BigQuiet
import Derived.Deep.DrawnRows
import Derived.Deep.CutRange
import Derived.Deep.RegionHeld3
namespace Go.Proofs.YtlkiaghpdjbfeaaGreatDoor
open Go.RowKit
variable {Zp : Nat → Prop}

theorem step_append_ent {P : Program} (w : World) {ops : Array Oper} {o : Oper} {a : Act} {K : Act → World → Prop} {Q : Exit → Act → World → Prop} {N : Prop} (hgd : o.guard = none) (s x : Operand) (T : TypeId)
    (ho : o.op = .call { callee := .builtin .append, args := #[s, x], argTypes := #[T, T] }) {E : TypeId} (U : Et P T E) (v : Value) (es : Row) (hs : a.eval s = v) (hown : OwnE E w v es) (B : Nat) (A : Option Addr) (n c : Nat) (fs : Row)
    (hx : a.eval x = .slice A n c) (hn : n = fs.length) (hr : Ents w B A fs) (hb : es.length + fs.length ≤ 1000000000)
    (h : ∀ A' n' c' w', OwnE E w' (.slice A' n' c') (es ++ fs) → Hid (n' = (es ++ fs).length) → n' ≤ c' → c' ≤ maxLen → w.grownBy w' v.ownBlock → ((Value.slice A' n' c').ownBlock = v.ownBlock ∨ (Value.slice A' n' c').ownBlock = some w.heap.size) → K (a.put o.dst (.slice A' n' c')) w') : if Region.wanted o (yielded ops a.tmps) = true then Oper.wp P o a w K Q else N := by
  have hw : Region.wanted o (yielded ops a.tmps) = true := by simp [Region.wanted, hgd]
  rw [if_pos hw]
  obtain ⟨v', w', hrun, h2, h3, h4⟩ := run_append_ent (P := P) w U o.type v es hown B A c fs n hn hr hb
  unfold Oper.wp execOp
  simp only [ho, resolve, invoke, builtin, Sem.run_bind, Sem.run_pure, Result.andThen_ok, List.map_toArray, List.map_cons, List.map_nil, hs, hx, hrun]
  obtain ⟨A', c', rfl, hle, hm, _, _⟩ := h2.shape
  exact h _ _ _ w' h2 rfl hle hm h3 h4
theorem Ents.sliced {w : World} {B : Nat} {A : Option Addr} {es : Row} {k c : Nat} (h : Ents w B A es) (hc : es.length ≤ c) : Ents w B (if c = k then A else A.map (·.add (k * 2))) (es.drop k) := fun j e hj => by
  rw [List.getElem?_drop] at hj
  have hlt : k + j < es.length := by
    rcases Nat.lt_or_ge (k + j) es.length with h' | h'
    · exact h'
    · rw [List.getElem?_eq_none h'] at hj; cases hj
  obtain ⟨b, o, rfl, hb, h1, h2⟩ := h (k + j) e hj
  rw [if_neg (by omega)]
  have e2 : o + k * 2 + j * 2 = o + (k + j) * 2 := by omega
  exact ⟨b, o + k * 2, by simp [Addr.add], hb, by rw [e2]; exact h1, by rw [e2]; exact h2⟩
set_option maxRecDepth 100000 in
set_option maxHeartbeats 2000000 in
theorem rput_any (w : World) (g : Nat) (t : Tr) (n : Nat) (x : Txt) (m : Nat) (h : RefAt Zp w g t) (hn : n < 64) (hb : (t n).entries.length ≤ 1000000) :
    Calls Tryz.prog 54 #[.pointer (some ⟨g, 0, none⟩), .int .i64 n, .string (ba x), .int .i64 m] w fun e w' => e = .returned (.tuple #[]) ∧ Keep (fun i => i = g) w w' ∧ RefAt Zp w' g (t.rows n (put (t n).entries x m)) := by
  obtain ⟨A, c, h1, h2, h3, h4, h5⟩ := (h.node n hn).ents
  have hni : (n : Int) < 64 := by omega
  have HT := Lib.hid h4
  have HLT := Lib.hid h.lt
  have HR := Lib.hid fun W (k : KF w W) => h.kept k
  have FIN : Hid (∀ (W : World) (A' : Option Addr) (n' c' : Nat), KF w W → OwnE 64 W (.slice A' n' c') (put (t n).entries x m) → NB w (.slice A' n' c') → Keep (fun i => i = g) w (W.setCell ⟨g, n * 5 + 4, none⟩ (.slice A' n' c')) ∧ RefAt Zp (W.setCell ⟨g, n * 5 + 4, none⟩ (.slice A' n' c')) g (t.rows n (put (t n).entries x m))) := Lib.hid (by
    intro W A' n' c' k o nb
    obtain ⟨A1, c1, e1, e2, e3, e4, e5⟩ := o.shape
    injection e1 with e1 e6 e7
    subst e1 e6 e7
    refine ⟨Keep.trans (Keep.mono k (fun _ _ h => h.elim)) (keep1 W g _ _) (fun i hi hs => hs), (h.kept k).setEnts hn rfl e2 e3 e4 (fun a ha => ?_) (fun a ha => .inr (h.new _ (nb _ (e5 a ha))))⟩
    have := nb _ (e5 a ha)
    have := h.lt
    omega)
  clear h h4 h5
  generalize t.rows n (put (t n).entries x m) = T2 at *
  generalize (t n).entries = es at *
  obtain ⟨len, hlen⟩ : ∃ len, es.length = len := ⟨_, rfl⟩
  rw [hlen] at h1 h2 hb
  have HL := Lib.hid hlen
  clear hlen
  have ON := Lib.hid fun W => ents_one W (x, m) 64
  obtain ⟨sx, hsx⟩ : ∃ sx, ba x = sx := ⟨_, rfl⟩
  have HX := Lib.hid hsx
  have ON2 : Hid (∀ W : World, Ents (W.alloc (.cells #[.string sx, .int .i64 (m : Int)] 64)) (W.heap.size + 1) (some ⟨W.heap.size, 0, none⟩) [(x, m)]) := Lib.hid (by rw [← hsx]; exact ON.out)
  clear ON
  rw [hsx]
  clear hsx
  go_enter Tryz.func54, Tryz.ntmps54
  go_wp2_with fail
  go_loopg [9, 10] len (fun gh s9 i wr => ∃ (k n' c' : Nat) (A' : Option Addr), k ≤ len ∧ len - k ≤ gh ∧ s9 = .slice A' n' c' ∧ i = .int .i64 k ∧ OwnE 64 wr (.slice A' n' c') (es.take k) ∧ NB w (.slice A' n' c') ∧ KF w wr ∧ Hid (∀ e ∈ es.take k, less e.1 x = true))
  case atStart => exact ⟨0, 0, 0, _, by omega, by omega, rfl, rfl, OwnE.empty _ _, NB.new (Nat.le_refl _) _ _, (KF.refl _).alloc _, Lib.hid (by simp)⟩
  case round =>
    obtain ⟨k, n', c', A', hk, hg, rfl, rfl, ho, hnb, kr, HLS⟩ := hrel
    rcases Nat.lt_or_ge k len with hlt | hge
    · have hlt' : (k : Int) < (len : Int) := by omega
      have q1 : k < es.length := by rw [HL.out]; exact hlt
      obtain ⟨b, o, rfl, hbb, n0, n1⟩ := ((HT.out.keep (Nat.le_refl _) kr (fun _ _ h => h)).more kr.size).at_ q1
      by_cases he : less es[k].1 x = true
      · have hbe : Op.bytesLess (ba es[k].1).toList sx.toList = true := by
          rw [← HX.out, Lib.toList_data, Lib.toList_data]
          exact he
        have HE := Lib.hid (List.take_succ_eq_append_getElem q1)
        have HLS2 : Hid (∀ e ∈ es.take (k + 1), less e.1 x = true) := Lib.hid fun e hm => by
          rw [HE.out] at hm
          rcases List.mem_append.1 hm with hm | hm
          · exact HLS.out e hm
          · simp at hm; rw [hm]; exact he
        have hdl : (es.take k).length ≤ k := by rw [List.length_take]; omega
        clear he
        generalize es[k] = e at *
        have hb2 : (es.take k).length + [e].length ≤ 1000000000 := by simp only [List.length_cons, List.length_nil]; omega
        have ON := Lib.hid (ents_one wr e 64)
        obtain ⟨sy, hsy⟩ : ∃ sy, ba e.1 = sy := ⟨_, rfl⟩
        rw [hsy] at n0 hbe ON
        clear hsy
        go_wp2_with (at_builtin; refine wpList_append_ent _ rfl _ _ _ rfl rent_law (.slice A' n' c') (es.take k) rfl (ho.alloc _) (wr.heap.size + 1) (some ⟨wr.heap.size, 0, none⟩) 1 1 [e] rfl rfl ON.out hb2 ?_; intro A4 n4 c4 w4 o4 e4 h4 m4 g4 f4)
        have k4 := (kr.alloc (.cells #[.string sy, .int .i64 (e.2 : Int)] 64)).own g4 hnb
        go_roundg (len - (k + 1))
        case measure => omega
        case rel =>
          rw [← HE.out] at o4
          exact ⟨k + 1, n4, c4, A4, by omega, by omega, rfl, by go_num, o4, hnb.next (Nat.le_trans kr.size (by simp)) f4, k4, HLS2⟩
      · have hbe : Op.bytesLess (ba es[k].1).toList sx.toList = false := by
          rw [← HX.out, Lib.toList_data, Lib.toList_data]
          exact Bool.eq_false_iff.2 he
        have HP : Hid (put es x m = es.take k ++ [(x, m)] ++ es.drop k) := Lib.hid (put_take (Nat.le_of_lt q1) HLS.out (fun e hm => by rw [List.getElem?_eq_getElem q1] at hm; injection hm with hm; rw [← hm]; exact Bool.eq_false_iff.2 he))
        clear he
        generalize ba es[k].1 = sy at *
        have HDL : Hid ((es.take k).length ≤ 1000000) := Lib.hid (by rw [List.length_take]; omega)
        have hb2 : (es.take k).length + [(x, m)].length ≤ 1000000000 := by have := HDL.out; simp only [List.length_cons, List.length_nil]; omega
        go_wp2_with (at_builtin; refine wpList_append_ent _ rfl _ _ _ rfl rent_law (.slice A' n' c') (es.take k) rfl (ho.alloc _) (wr.heap.size + 1) (some ⟨wr.heap.size, 0, none⟩) 1 1 [(x, m)] rfl rfl (ON2.out wr) hb2 ?_; intro A5 n5 c5 w5 o5 e5 h5 m5 g5 f5)
        have k5 := (kr.alloc (.cells #[.string sx, .int .i64 (m : Int)] 64)).own g5 hnb
        have nb5 : NB w (.slice A5 n5 c5) := hnb.next (Nat.le_trans kr.size (by simp)) f5
        have HRD : Hid (∀ j, Ents (w5.drewN j) w5.heap.size (if c = k then (some (⟨b, o, none⟩ : Addr)) else (some (⟨b, o, none⟩ : Addr)).map (·.add (k * 2))) (es.drop k)) := Lib.hid fun j => (((HT.out.keep (Nat.le_refl _) k5 (fun _ _ h => h)).more k5.size).sliced (by rw [HL.out]; exact h2)).drewN j
        have HDK : Hid ((es.drop k).length = len - k) := Lib.hid (by rw [List.length_drop, HL.out])
        have HB3 : Hid ((es.take k ++ [(x, m)]).length + (es.drop k).length ≤ 1000000000) := Lib.hid (by rw [HDK.out, List.length_append]; have := HDL.out; simp only [List.length_cons, List.length_nil]; omega)
        have HO5 : Hid (∀ j, OwnE 64 (w5.drewN j) (.slice A5 n5 c5) (es.take k ++ [(x, m)])) := Lib.hid fun j => o5
        have HC : Hid (∀ j W, (w5.drewN j).grownBy W (Value.slice A5 n5 c5).ownBlock → KF w W ∧ W.cell? ⟨g, n * 5 + 4, none⟩ = some (.slice (some ⟨b, o, none⟩) len c) ∧ W.frozen? ⟨g, n * 5 + 4, none⟩ = false) := Lib.hid fun j W hgr => by
          have kk : KF w W := Keep.own (Keep.drewN k5 j) hgr nb5
          exact ⟨kk, (KF.cell kk (p := ⟨g, n * 5 + 4, none⟩) HLT.out).trans h1, (HR.out W kk).free _⟩
        have hc5 : w5.cell? ⟨g, n * 5 + 4, none⟩ = some (.slice (some ⟨b, o, none⟩) len c) := (KF.cell k5 (p := ⟨g, n * 5 + 4, none⟩) HLT.out).trans h1
        have hf5 := (HR.out w5 k5).free (n * 5 + 4)
        have FIN2 : Hid (∀ j A6 n6 c6 w6, KF w w6 → OwnE 64 w6 (.slice A6 n6 c6) (es.take k ++ [(x, m)] ++ es.drop k) → ((Value.slice A6 n6 c6).ownBlock = (Value.slice A5 n5 c5).ownBlock ∨ (Value.slice A6 n6 c6).ownBlock = some (w5.drewN j).heap.size) → Keep (fun i => i = g) w (w6.setCell ⟨g, n * 5 + 4, none⟩ (.slice A6 n6 c6)) ∧ RefAt Zp (w6.setCell ⟨g, n * 5 + 4, none⟩ (.slice A6 n6 c6)) g T2) := Lib.hid fun j A6 n6 c6 w6 k6 o6 f6 =>
          FIN.out w6 A6 n6 c6 k6 (by rw [HP.out]; exact o6) (nb5.next (w := w5.drewN j) k5.size f6)
        clear ho hnb kr o5 e5 h5 m5 g5 f5 nb5 FIN HP ON2 HLS hb2
        by_cases hck : c = k
        · rw [if_pos hck] at HRD
          go_region_held3 (fun _ => True) (trivial)
            (first | (refine step_append_ent (w5.drewN _) rfl _ _ _ rfl rent_law (.slice A5 n5 c5) (es.take k ++ [(x, m)]) rfl (HO5.out _) w5.heap.size _ _ _ (es.drop k) rfl (by rw [HDK.out]; first | done | rfl | omega) (HRD.out _) HB3.out ?_; intro A6 n6 c6 w6 o6 e6 h6 m6 g6 f6; obtain ⟨k6, s0, s1⟩ := HC.out _ _ g6))
          go_end0
          exact ⟨rfl, FIN2.out _ A6 n6 c6 w6 k6 o6 f6⟩
        · rw [if_neg hck] at HRD
          have HRD2 : Hid (∀ j, Ents (w5.drewN j) w5.heap.size (some (⟨b, o + k * 2, none⟩ : Addr)) (es.drop k)) := Lib.hid fun j => by
            have := HRD.out j
            have hadd : ∀ k, (⟨b, o, none⟩ : Addr).add k = ⟨b, o + k, none⟩ := fun k => by unfold Addr.add; split <;> simp_all
            rwa [Option.map_some, hadd] at this
          clear HRD
          go_region_held3 (fun _ => True) (trivial)
            (first | (refine step_append_ent (w5.drewN _) rfl _ _ _ rfl rent_law (.slice A5 n5 c5) (es.take k ++ [(x, m)]) rfl (HO5.out _) w5.heap.size _ _ _ (es.drop k) rfl (by rw [HDK.out]; first | done | rfl | omega) (HRD2.out _) HB3.out ?_; intro A6 n6 c6 w6 o6 e6 h6 m6 g6 f6; obtain ⟨k6, s0, s1⟩ := HC.out _ _ g6))
          go_end0
          exact ⟨rfl, FIN2.out _ A6 n6 c6 w6 k6 o6 f6⟩
    · obtain rfl : k = len := by omega
      have hlt' : ¬ (k : Int) < (k : Int) := by omega
      have HP : Hid (put es x m = es.take k ++ [(x, m)] ++ es.drop k) := Lib.hid (put_take (Nat.le_of_eq HL.out.symm) HLS.out (fun e hm => by rw [List.getElem?_eq_none (Nat.le_of_eq HL.out)] at hm; cases hm))
      have HDL : Hid ((es.take k).length ≤ 1000000) := Lib.hid (by rw [List.length_take]; omega)
      have hb2 : (es.take k).length + [(x, m)].length ≤ 1000000000 := by have := HDL.out; simp only [List.length_cons, List.length_nil]; omega
      go_wp2_with (at_builtin; refine wpList_append_ent _ rfl _ _ _ rfl rent_law (.slice A' n' c') (es.take k) rfl (ho.alloc _) (wr.heap.size + 1) (some ⟨wr.heap.size, 0, none⟩) 1 1 [(x, m)] rfl rfl (ON2.out wr) hb2 ?_; intro A5 n5 c5 w5 o5 e5 h5 m5 g5 f5)
      have k5 := (kr.alloc (.cells #[.string sx, .int .i64 (m : Int)] 64)).own g5 hnb
      have nb5 : NB w (.slice A5 n5 c5) := hnb.next (Nat.le_trans kr.size (by simp)) f5
      have HRD : Hid (∀ j, Ents (w5.drewN j) w5.heap.size (if c = k then A else A.map (·.add (k * 2))) (es.drop k)) := Lib.hid fun j => (((HT.out.keep (Nat.le_refl _) k5 (fun _ _ h => h)).more k5.size).sliced (by rw [HL.out]; exact h2)).drewN j
      have HDK : Hid ((es.drop k).length = k - k) := Lib.hid (by rw [List.length_drop, HL.out])
      have HB3 : Hid ((es.take k ++ [(x, m)]).length + (es.drop k).length ≤ 1000000000) := Lib.hid (by rw [HDK.out, List.length_append]; have := HDL.out; simp only [List.length_cons, List.length_nil]; omega)
      have HO5 : Hid (∀ j, OwnE 64 (w5.drewN j) (.slice A5 n5 c5) (es.take k ++ [(x, m)])) := Lib.hid fun j => o5
      have HC : Hid (∀ j W, (w5.drewN j).grownBy W (Value.slice A5 n5 c5).ownBlock → KF w W ∧ W.cell? ⟨g, n * 5 + 4, none⟩ = some (.slice A k c) ∧ W.frozen? ⟨g, n * 5 + 4, none⟩ = false) := Lib.hid fun j W hgr => by
        have kk : KF w W := Keep.own (Keep.drewN k5 j) hgr nb5
        exact ⟨kk, (KF.cell kk (p := ⟨g, n * 5 + 4, none⟩) HLT.out).trans h1, (HR.out W kk).free _⟩
      have hc5 : w5.cell? ⟨g, n * 5 + 4, none⟩ = some (.slice A k c) := (KF.cell k5 (p := ⟨g, n * 5 + 4, none⟩) HLT.out).trans h1
      have hf5 := (HR.out w5 k5).free (n * 5 + 4)
      have FIN2 : Hid (∀ j A6 n6 c6 w6, KF w w6 → OwnE 64 w6 (.slice A6 n6 c6) (es.take k ++ [(x, m)] ++ es.drop k) → ((Value.slice A6 n6 c6).ownBlock = (Value.slice A5 n5 c5).ownBlock ∨ (Value.slice A6 n6 c6).ownBlock = some (w5.drewN j).heap.size) → Keep (fun i => i = g) w (w6.setCell ⟨g, n * 5 + 4, none⟩ (.slice A6 n6 c6)) ∧ RefAt Zp (w6.setCell ⟨g, n * 5 + 4, none⟩ (.slice A6 n6 c6)) g T2) := Lib.hid fun j A6 n6 c6 w6 k6 o6 f6 =>
        FIN.out w6 A6 n6 c6 k6 (by rw [HP.out]; exact o6) (nb5.next (w := w5.drewN j) k5.size f6)
      clear ho hnb kr o5 e5 h5 m5 g5 f5 nb5 FIN HP ON2 HLS hb2
      by_cases hck : c = k
      · rw [if_pos hck] at HRD
        go_region_held3 (fun _ => True) (trivial)
          (first | (refine step_append_ent (w5.drewN _) rfl _ _ _ rfl rent_law (.slice A5 n5 c5) (es.take k ++ [(x, m)]) rfl (HO5.out _) w5.heap.size _ _ _ (es.drop k) rfl (by rw [HDK.out]; first | done | rfl | omega) (HRD.out _) HB3.out ?_; intro A6 n6 c6 w6 o6 e6 h6 m6 g6 f6; obtain ⟨k6, s0, s1⟩ := HC.out _ _ g6))
        go_end0
        exact ⟨rfl, FIN2.out _ A6 n6 c6 w6 k6 o6 f6⟩
      · rw [if_neg hck] at HRD
        go_region_held3 (fun _ => True) (trivial)
          (first | (refine step_append_ent (w5.drewN _) rfl _ _ _ rfl rent_law (.slice A5 n5 c5) (es.take k ++ [(x, m)]) rfl (HO5.out _) w5.heap.size _ _ _ (es.drop k) rfl (by rw [HDK.out]; first | done | rfl | omega) (HRD.out _) HB3.out ?_; intro A6 n6 c6 w6 o6 e6 h6 m6 g6 f6; obtain ⟨k6, s0, s1⟩ := HC.out _ _ g6))
        go_end0
        exact ⟨rfl, FIN2.out _ A6 n6 c6 w6 k6 o6 f6⟩
end Go.Proofs.YtlkiaghpdjbfeaaGreatDoor
