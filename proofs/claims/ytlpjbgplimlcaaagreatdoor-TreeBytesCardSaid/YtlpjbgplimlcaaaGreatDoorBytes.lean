/-
  TreeBytes, walked.
-/
import Derived.Test.YtlpjbgplimlcaaaGreatDoorFileF
import Derived.Laws.BytesString
namespace Go.Proofs.YtlpjbgplimlcaaaGreatDoor
open Go.RowKit Go.Maps

theorem i64_and511 (n : Int) : bits .and .i64 n 511 = n % 512 := by
  have h127 : (BitVec.ofInt 64 511).toNat = 2 ^ 9 - 1 := by decide
  have key : (BitVec.ofInt 64 n &&& BitVec.ofInt 64 511).toNat = (n % ((2 ^ 64 : Nat) : Int)).toNat % 2 ^ 9 := by
    rw [BitVec.toNat_and, BitVec.toNat_ofInt, h127, Nat.and_two_pow_sub_one_eq_mod]
  show IntKind.i64.wrap ((BitVec.ofInt 64 n &&& BitVec.ofInt 64 511).toNat : Nat) = n % 512
  rw [key, IntKind.wrap_i64]
  omega
/-- 'string(b)', of bytes of the call's own. -/
theorem string_own {w : World} {A : Option Addr} {n c : Nat} {l : Txt} (h : Own 5 w (.slice A n c) l) : (convert 29 9 (.slice A n c)).run Tryz.prog w = .ok (.string (ba l)) w := by
  obtain rfl := h.len
  rcases l with _ | ⟨b, l⟩
  · rw [run_convert_bytes_string w 29 9 5 A _ c Tryz.underlying29 Tryz.underlying5 Tryz.underlying9]
    cases A <;> simp [Conv.bytesToString, loadCells] <;> rfl
  · obtain ⟨a, rfl, _⟩ := h.rd.some_of (Nat.succ_pos _)
    exact string_rd c h.rd
theorem field_data (v0 v1 v2 v3 v4 v5 : Value) (w : World) : (Instr.field 36 (.agg #[v0, v1, v2, v3, v4, v5]) 4).run Tryz.prog w = .ok v4 w := by kernel_rfl
theorem field_size (v0 v1 v2 v3 v4 v5 : Value) (w : World) : (Instr.field 36 (.agg #[v0, v1, v2, v3, v4, v5]) 2).run Tryz.prog w = .ok v2 w := by kernel_rfl
theorem addr_zero (a : Addr) : a.add 0 = a := by cases a; simp [Addr.add]
theorem take_more (b : Txt) (m : Nat) : b.take m ++ (b.drop m).take 256 = b.take (m + 256) := List.take_add.symm

set_option maxRecDepth 100000 in
set_option maxHeartbeats 4000000 in
theorem bytes_walk (A : Option Addr) (cs : List TCall) (n c : Nat) (k0 : Int) (w : World) (he : Env w) (hn : n = cs.length) (hr : CallsAt w w.heap.size A cs) :
    Calls Tryz.prog 5 #[.slice A n c, .int .i64 k0] w fun e w' => e = .returned (.bool true) ∧ KF w w' := by
  have HS := Lib.hid (speaks_any w he)
  have HG := Lib.hid fun wr (k : KF w wr) => great_any A cs n c wr hn ((hr.keep k (Nat.le_refl _)).more k.size)
  have HN := Lib.hid hn
  have HR := Lib.hid hr
  have hfd := field_err
  clear hn hr
  go_enter Tryz.func5, Tryz.ntmps5
  go_wp2_with fail
  refine HS.out.mono ?_
  rintro e w1 ⟨rfl, k1⟩
  go_wp2_with fail
  refine (HG.out w1 k1).mono ?_
  rintro e w2 ⟨b, rfl, k2, hb⟩
  have k12 := KF.trans k1 k2
  rcases b with _ | _
  · have HSM := Lib.hid (hb rfl)
    have HNEW := Lib.hid (St8.new k12 he)
    have hn120 : n ≤ 120 := by rw [HN.out]; exact HSM.out.1
    clear hb
    go_wp2_with fail
    refine HNEW.out.mono ?_
    rintro e w3 ⟨L, rfl, S3, k3, _⟩
    have HMK := Lib.hid (S3.out.make_ (by omega))
    have hLtb : L.tb = L.tb := rfl
    generalize hq : L.tb = tb at *
    clear hLtb
    go_wp2_with fail
    refine HMK.out.mono ?_
    rintro e w4 ⟨A4, c4, A4', c4', L4, rfl, S4⟩
    have htb4 : L4.tb = tb := S4.out.tb.trans hq
    have hSt := S4.out.st
    have hno : ¬ Foot L4 (fileT []) w4.heap.size := hSt.free (Nat.le_refl _)
    have hge : w.heap.size ≤ w4.heap.size := S4.out.kf.size
    have St := Lib.hid (show St8 w (w4.alloc (.cells #[] 5)) L4 2 (fileT []) from hSt.later ((KF.refl w4).alloc _))
    have hown : Own 5 (w4.alloc (.cells #[] 5)) (.slice (some ⟨w4.heap.size, 0, none⟩) 0 0) [] := Own.lit 5 w4 [] (by decide)
    clear S4 S3 HNEW HMK hSt hq
    go_wp2_with fail
    go_loopg [6, 28] n (fun g s6 i wr => ∃ (k : Nat) (L : Lay) (b : Txt) (A6 : Option Addr) (n6 c6 : Nat), k ≤ n ∧ n - k ≤ g ∧ s6 = .slice A6 n6 c6 ∧ i = .int .i64 k ∧ L.tb = tb ∧ Hid (St8 w wr L (k + 2) (fileT b)) ∧ Own 5 wr (.slice A6 n6 c6) b ∧
      Hid (b.length ≤ 512) ∧ Hid (∀ g, (Value.slice A6 n6 c6).ownBlock = some g → w.heap.size ≤ g ∧ ¬ Foot L (fileT b) g))
    case atStart =>
      refine ⟨0, L4, [], _, _, _, by omega, by omega, rfl, rfl, htb4, St, hown, Lib.hid (Nat.zero_le _), Lib.hid fun g hg => ?_⟩
      have : w4.heap.size = g := by simpa [Value.ownBlock] using hg
      subst this
      exact ⟨hge, hno⟩
    case round =>
      obtain ⟨k, L1, b, A6, n6, c6, hk, hg, rfl, rfl, hL1, S, ho, hb5, hfree⟩ := hrel
      rcases Nat.lt_or_ge k n with hlt | hge'
      · have hlt' : (k : Int) < (n : Int) := by omega
        have q1 : k < cs.length := by rw [← HN.out]; exact hlt
        have hat : cs[k]? = some cs[k] := List.getElem?_eq_getElem q1
        have hsm := HSM.out.2 _ (List.getElem_mem q1)
        obtain ⟨bb, o', A1, c1, rfl, hbb, hc, hrd⟩ := (HR.out.keep S.out.kf (Nat.le_refl _)) k _ hat
        generalize cs[k] = x at *
        have c0 : wr.cell? ⟨bb, o' + k * 6, none⟩ = some (.int .i64 x.kind) := hc 0 _ rfl
        have c1' : wr.cell? ⟨bb, o' + k * 6 + 1, none⟩ = some (.string (ba x.path)) := hc 1 _ rfl
        have c2 : wr.cell? ⟨bb, o' + k * 6 + 2, none⟩ = some (.string (ba x.other)) := hc 2 _ rfl
        have c3 : wr.cell? ⟨bb, o' + k * 6 + 3, none⟩ = some (.int .i64 x.off) := hc 3 _ rfl
        have c4 : wr.cell? ⟨bb, o' + k * 6 + 4, none⟩ = some (.int .i64 x.n) := hc 4 _ rfl
        have c5 : wr.cell? ⟨bb, o' + k * 6 + 5, none⟩ = some (.slice A1 x.data.length c1) := hc 5 _ rfl
        have HDO : Hid (∀ X, Calls Tryz.prog 13 #[.pointer (some ⟨L1.tb, 0, none⟩), .agg #[.int .i64 7, .string ⟨#[47, 102]⟩, .string (ba x.other), .int .i64 x.off, .int .i64 x.n, .slice A1 x.data.length c1]] (wr.alloc X) _) := Lib.hid fun X =>
          (S.out.later ((KF.refl wr).alloc X)).write_ (by omega) x A1 c1 (by omega) (by omega) (hrd.alloc S.out.kf.size X)
        rw [hL1] at HDO
        clear hc hat
        go_wp2_with fail
        refine (HDO.out _).mono ?_
        rintro e w5 ⟨A2, c6', A2', c6'', L2, r, rfl, S5, hcase⟩
        have hans : ∀ r : TAns, (Value.agg (ansC r A2 c6' A2' c6'')) = .agg #[.int .i64 r.err, .int .i64 r.kind, .int .i64 r.size, .int .i64 r.links, .slice A2 r.data.length c6', .slice A2' r.names.length c6''] := fun _ => rfl
        rw [hans]
        clear hans
        have p3 := st_cell S.out S5.out 3 rfl
        have p5 := st_cell S.out S5.out 5 rfl
        have l5 : wr.heap.size < w5.heap.size := World.block_lt_of_cell? _ _ p5
        have ho5 : Own 5 w5 (.slice A6 n6 c6) b := (ho.alloc _).kept S5.out.keep (fun g hg hf => (hfree.out g hg).2 hf)
        have hlt6 := Lib.hid ho.lt
        have hfree5 : Hid (∀ g, (Value.slice A6 n6 c6).ownBlock = some g → w.heap.size ≤ g ∧ ¬ Foot L2 r.2 g) := Lib.hid fun g hg =>
          ⟨(hfree.out g hg).1, (S5.out.old (b := g) (Nat.lt_of_lt_of_le (hlt6.out g hg) (by simp)) (hfree.out g hg).2).1⟩
        have htb2 : L2.tb = tb := S5.out.tb.trans hL1
        have hrd5 : Rd w5 w.heap.size A1 x.data := (hrd.alloc S.out.kf.size _).kept S5.out.keep (Nat.le_trans S.out.kf.size (by simp)) (fun i hi hf => by have := S.out.far i hf; omega)
        have T5 := Lib.hid S5.out.st
        clear S S5 ho hfree HDO hrd
        rcases hcase with ⟨he0, hr2⟩ | ⟨he0, hoff, hsum, hd256, hr2⟩
        · have z1 : ((r.1.err : Int) != 0) = true := bne_iff_ne.2 (by omega)
          have HREL : Hid (∃ (k' : Nat) (L : Lay) (b : Txt) (A7 : Option Addr) (n7 c7 : Nat), k' ≤ n ∧ n - k' ≤ n - (k + 1) ∧ Value.slice A6 n6 c6 = .slice A7 n7 c7 ∧ Value.int .i64 (k + 1) = .int .i64 k' ∧ L.tb = tb ∧ Hid (St8 w w5 L (k' + 2) (fileT b)) ∧ Own 5 w5 (.slice A7 n7 c7) b ∧
            Hid (b.length ≤ 512) ∧ Hid (∀ g, (Value.slice A7 n7 c7).ownBlock = some g → w.heap.size ≤ g ∧ ¬ Foot L (fileT b) g)) :=
            Lib.hid ⟨k + 1, L2, b, A6, n6, c6, hlt, Nat.le_refl _, rfl, by go_num, htb2, Lib.hid (by rw [← hr2]; exact T5.out), ho5, hb5, by rw [← hr2]; exact hfree5⟩
          clear ho5 hfree5 T5 hrd5 HSM HR HG HS hr2
          go_wp2_with fail
          go_roundg (n - (k + 1))
          case measure => omega
          case rel => exact HREL.out
        · have z1 : ((r.1.err : Int) != 0) = false := by rw [he0]; rfl
          generalize hcb : wr.heap.size = cb at *
          clear hcb
          have hwcb : w.heap.size ≤ w5.heap.size := T5.out.kf.size
          obtain ⟨m, hm⟩ : ∃ m : Nat, x.off = (m : Int) := ⟨x.off.toNat, by omega⟩
          rw [hm] at p3 hsum hr2
          rw [show ((m : Int)).toNat = m from Int.toNat_natCast m] at hsum hr2
          have HM := Lib.hid hm
          clear hm hoff
          generalize hld : x.data.length = ld at *
          have HLD := Lib.hid hld
          have HR2 := Lib.hid hr2
          clear hld hr2 he0
          have w0 : Own 5 w5 (.slice A6 n6 c6) (written b m (x.data.take 0)) := by rw [written_none]; exact ho5
          go_wp2_with fail
          go_loopg [6, 42] ld (fun g s6 i wr => ∃ (j : Nat) (A7 : Option Addr) (n7 c7 : Nat), j ≤ ld ∧ ld - j ≤ g ∧ s6 = .slice A7 n7 c7 ∧ i = .int .i64 j ∧ Own 5 wr (.slice A7 n7 c7) (written b m (x.data.take j)) ∧ Keep (fun q => (Value.slice A6 n6 c6).ownBlock = some q) w5 wr ∧
            Hid (∀ g, (Value.slice A7 n7 c7).ownBlock = some g → (Value.slice A6 n6 c6).ownBlock = some g ∨ w5.heap.size ≤ g))
          case atStart => exact ⟨0, A6, n6, c6, by omega, by omega, rfl, rfl, w0, Keep.refl _ _, Lib.hid fun g hg => .inl hg⟩
          case round =>
            obtain ⟨j, A7, n7, c7, hj, hgj, rfl, rfl, ho7, k7, hb7⟩ := hrel
            rcases Nat.lt_or_ge j ld with hjl | hjl
            · have hjl' : (j : Int) < (ld : Int) := by omega
              have hrd7 : Rd wr w.heap.size A1 x.data := hrd5.kept k7 hwcb (fun i hi hf => by have := (hfree5.out i hf).1; omega)
              have ncb : ¬ (Value.slice A6 n6 c6).ownBlock = some cb := fun h => by have := hlt6.out cb h; omega
              have p3x : wr.cell? ⟨cb, 3, none⟩ = some (.int .i64 (m : Int)) := (k7.cell (p := ⟨cb, 3, none⟩) l5 ncb).trans p3
              obtain ⟨a, rfl, hab, hcell⟩ := hrd7.cells (k := j) (by rw [HLD.out]; exact hjl)
              clear hrd7
              go_wp2_with fail
              have ld256 : ld ≤ 256 := hd256
              have wmj : IntKind.i64.wrap ((m : Int) + (j : Int)) = (m : Int) + (j : Int) := IntWalk.i64_in _ ⟨by omega, by omega⟩
              have hti : ((m : Int) + (j : Int)).toNat = m + j := by omega
              have hstep : Hid (∀ q n8, n8 = (written b m (x.data.take j) ++ List.replicate q 0).length → m + j < n8 → (q = 0 ∨ n8 ≤ m + j + 1) → (written b m (x.data.take j) ++ List.replicate q 0).set (m + j) (x.data[j]'(by rw [HLD.out]; exact hjl)) = written b m (x.data.take (j + 1))) := Lib.hid fun q n8 e1 e2 e3 => by
                rw [written_step b m x.data j (by rw [HLD.out]; exact hjl)]
                rw [List.length_append, List.length_replicate] at e1
                unfold reach
                congr 3
                omega
              have hlen0 : Hid ((written b m (x.data.take j)).length ≤ 1024) := Lib.hid (by
                have hb512 := hb5.out
                unfold written
                split
                · omega
                · rw [over_length (by rw [sized_length]; omega), sized_length, List.length_take]
                  omega)
              have o7 := ho7
              generalize written b m (x.data.take j) = l0 at *
              generalize x.data[j]'(by rw [HLD.out]; exact hjl) = bt at *
              clear ho7 p3x
              go_loopg [6] (m + j + 1) (fun g s6 wr => ∃ (q : Nat) (A8 : Option Addr) (n8 c8 : Nat), (m + j + 1) - n8 ≤ g ∧ s6 = .slice A8 n8 c8 ∧ Own 5 wr (.slice A8 n8 c8) (l0 ++ List.replicate q 0) ∧ (q = 0 ∨ n8 ≤ m + j + 1) ∧ Keep (fun q => (Value.slice A6 n6 c6).ownBlock = some q) w5 wr ∧
                Hid (∀ g, (Value.slice A8 n8 c8).ownBlock = some g → (Value.slice A6 n6 c6).ownBlock = some g ∨ w5.heap.size ≤ g))
              case atStart => exact ⟨0, A7, n7, c7, by omega, rfl, by simpa using o7, .inl rfl, k7, hb7⟩
              case round =>
                obtain ⟨q, A8, n8, c8, hg8, rfl, ho8, hq8, k8, hb8⟩ := hrel
                have p38 : wr.cell? ⟨cb, 3, none⟩ = some (.int .i64 (m : Int)) := (k8.cell (p := ⟨cb, 3, none⟩) l5 ncb).trans p3
                have HN8 := Lib.hid ho8.len
                rcases Nat.lt_or_ge (m + j) n8 with hml | hml
                · have hml' : ¬ (n8 : Int) ≤ (m : Int) + (j : Int) := by omega
                  rcases ho8.2 with ⟨e, h0⟩ | ⟨g, cap, cur, e, _⟩
                  · injection e with e1 e2 e3
                    omega
                  · injection e with e1 e2 e3
                    subst e1
                    clear e2 e3
                    have cA := ho8.cellAt (m + j) (by rw [← HN8.out]; exact hml)
                    have fA := ho8.frozenAt (m + j)
                    have hlo : 0 ≤ (m : Int) + (j : Int) := by omega
                    have hhi : (m : Int) + (j : Int) < (n8 : Int) := by omega
                    have hos := ho8.store (m + j) bt
                    rw [hstep.out q n8 HN8.out hml hq8] at hos
                    have ks : Keep (fun q => (Value.slice A6 n6 c6).ownBlock = some q) w5 (wr.setCell ⟨g, m + j, none⟩ (.int .u8 bt.toNat)) := k8.setCell (Or.symm (hb8.out g rfl)) _
                    have HREL : Hid (∃ (j' : Nat) (A7 : Option Addr) (n7 c7 : Nat), j' ≤ ld ∧ ld - j' ≤ ld - (j + 1) ∧ Value.slice (some ⟨g, 0, none⟩) n8 c8 = .slice A7 n7 c7 ∧ Value.int .i64 (j + 1) = .int .i64 j' ∧ Own 5 (wr.setCell ⟨g, m + j, none⟩ (.int .u8 bt.toNat)) (.slice A7 n7 c7) (written b m (x.data.take j')) ∧ Keep (fun q => (Value.slice A6 n6 c6).ownBlock = some q) w5 (wr.setCell ⟨g, m + j, none⟩ (.int .u8 bt.toNat)) ∧
                      Hid (∀ g, (Value.slice A7 n7 c7).ownBlock = some g → (Value.slice A6 n6 c6).ownBlock = some g ∨ w5.heap.size ≤ g)) := Lib.hid ⟨j + 1, _, n8, c8, hjl, Nat.le_refl _, rfl, by go_num, hos, ks, hb8⟩
                    clear hos ks hstep k8 k7 hb8 hb7 o7 HSM HR HG HS HR2 T5 hfree5 hrd5 w0 ho5
                    go_wp2_with fail
                    go_roundg (ld - (j + 1))
                    case measure => omega
                    case rel => exact HREL.out
                · have hml' : (n8 : Int) ≤ (m : Int) + (j : Int) := by omega
                  go_wp2_with (at_builtin; refine wpList_append_u8 _ rfl _ _ _ rfl u8_law (.slice A8 n8 c8) _ rfl (ho8.alloc _) (wr.heap.size + 1) (some ⟨wr.heap.size, 0, none⟩) 1 1 [0] rfl rfl (Rd.lit wr 5 (0, 0) [0] _ rfl) (by have h1 := HN8.out; have h2 := hlen0.out; simp at h1 ⊢; omega) ?_; intro A9 n9 c9 w9 o9 e9 h9 m9 g9 f9)
                  have hl9 : n9 = n8 + 1 := by
                    have h1 := e9.out
                    rw [List.length_append, ← HN8.out] at h1
                    exact h1
                  have o9' : Own 5 w9 (.slice A9 n9 c9) (l0 ++ List.replicate (q + 1) 0) := by
                    have h1 := o9
                    rw [List.append_assoc] at h1
                    rw [List.replicate_succ']
                    exact h1
                  have k9 : Keep (fun q => (Value.slice A6 n6 c6).ownBlock = some q) w5 w9 := (k8.alloc _).grown g9 fun q hq hlt => by
                    rcases hb8.out q hq with h | h
                    · exact h
                    · omega
                  have hb9 : Hid (∀ g, (Value.slice A9 n9 c9).ownBlock = some g → (Value.slice A6 n6 c6).ownBlock = some g ∨ w5.heap.size ≤ g) := Lib.hid fun g hg => by
                    rcases f9 with h | h
                    · rw [h] at hg
                      exact hb8.out g hg
                    · rw [h] at hg
                      injection hg with hg
                      rw [← hg]
                      have := k8.size
                      exact .inr (Nat.le_trans this (by simp))
                  go_roundg (m + j + 1 - (n8 + 1))
                  case measure => omega
                  case rel => exact ⟨q + 1, A9, n9, c9, by omega, rfl, o9', .inr (by omega), k9, hb9⟩
            · obtain rfl : j = ld := by omega
              have hjl' : ¬ (j : Int) < (j : Int) := by omega
              have HREL : Hid (∃ (k' : Nat) (L : Lay) (b : Txt) (A8 : Option Addr) (n8 c8 : Nat), k' ≤ n ∧ n - k' ≤ n - (k + 1) ∧ Value.slice A7 n7 c7 = .slice A8 n8 c8 ∧ Value.int .i64 (k + 1) = .int .i64 k' ∧ L.tb = tb ∧ Hid (St8 w wr L (k' + 2) (fileT b)) ∧ Own 5 wr (.slice A8 n8 c8) b ∧
                Hid (b.length ≤ 512) ∧ Hid (∀ g, (Value.slice A8 n8 c8).ownBlock = some g → w.heap.size ≤ g ∧ ¬ Foot L (fileT b) g)) := by
                have Tx : St8 w wr L2 (k + 1 + 2) r.2 := T5.out.beside k7 (fun q hf he => (hfree5.out q he).2 hf) (Keep.trans T5.out.kf k7 fun i hi he => by have := (hfree5.out i he).1; omega)
                have hbw : (written b m x.data).length ≤ 512 := by
                  have := Tx.good.file 1 (by rw [HR2.out]; rfl)
                  rw [HR2.out] at this
                  exact this.2
                have ho7' : Own 5 wr (.slice A7 n7 c7) (written b m x.data) := by
                  have h := ho7
                  rw [← HLD.out, written_all] at h
                  exact h
                rw [HR2.out] at Tx
                refine Lib.hid ⟨k + 1, L2, written b m x.data, A7, n7, c7, hlt, Nat.le_refl _, rfl, by go_num, htb2, Lib.hid Tx, ho7', Lib.hid hbw, Lib.hid fun g hg => ?_⟩
                rcases hb7.out g hg with h | h
                · have := hfree5.out g h
                  rw [HR2.out] at this
                  exact this
                · refine ⟨Nat.le_trans hwcb h, fun hf => ?_⟩
                  have h5 := T5.out.tree
                  rw [HR2.out] at h5
                  have := h5.lt hf
                  omega
              clear ho7 hfree5 T5 hrd5 HSM HR HG HS HR2 k7 hb7 w0 ho5
              go_wp2_with fail
              go_roundg (n - (k + 1))
              case measure => omega
              case rel => exact HREL.out
      · obtain rfl : k = n := by omega
        have hlt' : ¬ (k : Int) < (k : Int) := by omega
        have hb512 := hb5.out
        clear HG HR HSM HS
        have hand := i64_and511 k0
        obtain ⟨q, hqq⟩ : ∃ q : Nat, k0 % 512 = (q : Int) := ⟨(k0 % 512).toNat, by omega⟩
        have hq5 : q ≤ 511 := by omega
        rw [hqq] at hand
        clear hqq
        obtain ⟨w0, hw0⟩ : ∃ w0 : World, w0 = wr := ⟨_, rfl⟩
        subst hw0
        have hfd4 := field_data
        have hfd2 := field_size
        have kw0 := S.out.kf
        have hkk : k ≤ 120 := hn120
        clear hn120 St hown hno hge htb4
        go_wp2_with fail
        go_loopg [12, 13] 1024 (fun g s i wx => ∃ (m : Nat) (A7 : Option Addr) (n7 c7 : Nat), m ≤ 2048 ∧ 1024 - m ≤ g ∧ i = .int .i64 m ∧ s = .slice A7 n7 c7 ∧ Own 5 wx (.slice A7 n7 c7) (b.take m) ∧ KF w0 wx ∧ NB w0 (.slice A7 n7 c7))
        case atStart => exact ⟨0, _, _, _, by omega, by omega, rfl, rfl, Own.lit 5 w0 [] (by decide), (KF.refl w0).alloc _, NB.new (Nat.le_refl _) 0 0⟩
        case round =>
          obtain ⟨m, A7, n7, c7, hm2, hg7, rfl, rfl, o7, k7, nb7⟩ := hrel
          rcases Nat.lt_or_ge m 1024 with hml | hml
          · have hml' : (m : Int) < 1024 := by omega
            have HRD := Lib.hid ((S.out.later k7).read_ (by omega) m 256 (by omega))
            rw [hL1] at HRD
            have HTM := Lib.hid (take_more b m)
            have hlt1 : (b.take m).length + ((b.drop m).take 256).length ≤ 70368744177664 := by simp; omega
            generalize hd : (b.drop m).take 256 = d at *
            clear hd
            generalize hld : d.length = ld at *
            have HLD := Lib.hid hld
            rw [← hld] at hlt1
            clear hld
            go_wp2_with fail
            refine HRD.out.mono ?_
            rintro e w8 ⟨A8, c8, A8', c8', rfl, hr8, _, _, _, k8⟩
            have hans : (Value.agg (ansC ⟨0, 0, 0, 0, d, []⟩ A8 c8 A8' c8')) = .agg #[.int .i64 0, .int .i64 0, .int .i64 0, .int .i64 0, .slice A8 ld c8, .slice A8' 0 c8'] := by rw [← HLD.out]; rfl
            rw [hans]
            clear hans
            have o8 := o7.kept k8 (fun _ _ h => h)
            have k78 := KF.trans k7 k8
            go_wp2_with (at_builtin; refine wpList_append_u8 _ rfl _ _ _ rfl u8_law (.slice A7 n7 c7) _ rfl o8 w8.heap.size A8 ld c8 d rfl HLD.out.symm hr8 hlt1 ?_; intro A9 n9 c9 w9 o9 e9 h9 m9 g9 f9)
            rw [HTM.out] at o9
            have k9 : KF w0 w9 := Keep.own k78 g9 nb7
            have nb9 : NB w0 (.slice A9 n9 c9) := nb7.next k78.size f9
            go_roundg (1024 - (m + 256))
            case measure => omega
            case rel => exact ⟨m + 256, A9, n9, c9, by omega, by omega, by go_num, rfl, o9, k9, nb9⟩
          · have hml' : ¬ (m : Int) < 1024 := by omega
            rw [List.take_of_length_le (show b.length ≤ m by omega)] at o7
            have hoA := ho.kept k7 (fun _ _ h => h)
            have cv1 := string_own o7
            have cv2 := string_own hoA
            have HSZ := Lib.hid ((S.out.later k7).size_ (by omega))
            rw [hL1] at HSZ
            generalize hP : ba b = P at cv1 cv2
            clear hP
            have hn6 : n6 = b.length := hoA.len
            rw [← hn6] at HSZ
            have HN6 := Lib.hid hn6
            clear hn6
            go_wp2_with fail
            refine HSZ.out.mono ?_
            rintro e w8 ⟨A8, c8, A8', c8', rfl, _, _, _, _, k8⟩
            have hans : (Value.agg (ansC ⟨0, 2, n6, 1, [], []⟩ A8 c8 A8' c8')) = .agg #[.int .i64 0, .int .i64 2, .int .i64 n6, .int .i64 1, .slice A8 0 c8, .slice A8' 0 c8'] := rfl
            rw [hans]
            clear hans cv1 cv2 HSZ
            have k78 := KF.trans k7 k8
            have HC1 := Lib.hid ((S.out.later k78).cut_ (by omega) q (by omega))
            rw [hL1] at HC1
            go_wp2_with fail
            refine HC1.out.mono ?_
            rintro e wa ⟨Aa, ca, Aa', ca', La, rfl, Sa⟩
            have hLa : La.tb = tb := Sa.out.tb.trans hL1
            have hlt8 := (ho.kept k78 (fun _ _ h => h)).lt
            have oa := (ho.kept k78 (fun _ _ h => h)).kept Sa.out.keep (fun g hg hf => (hfree.out g hg).2 hf)
            have hfa := Lib.hid fun (g : Nat) (hg : (Value.slice A6 n6 c6).ownBlock = some g) => (Sa.out.old (b := g) (hlt8 g hg) (hfree.out g hg).2).1
            have HC2 := Lib.hid (Sa.out.st.cut_ (by omega) 512 (by omega))
            rw [hLa] at HC2
            clear HC1 hlt8
            go_wp2_with fail
            refine HC2.out.mono ?_
            rintro e wb ⟨Ab, cb, Ab', cb', Lb, rfl, Sb⟩
            have hLb : Lb.tb = tb := Sb.out.tb.trans hLa
            have ob := oa.kept Sb.out.keep (fun g hg hf => hfa.out g hg hf)
            have Tb := Lib.hid Sb.out.st
            have kwb := Sb.out.kf
            clear HC2 oa hfa Sa Sb S hfree hoA o7 nb7 k8 k78 k7 ho
            go_wp2_with fail
            go_loopg [14] 512 (fun gh i wx => ∃ j : Nat, j ≤ 512 ∧ 512 - j ≤ gh ∧ i = .int .i64 j ∧ KF wb wx)
            case atStart => exact ⟨0, by omega, by omega, rfl, KF.refl _⟩
            case round =>
              obtain ⟨j, hj, hgj, rfl, kx⟩ := hrel
              rcases Nat.lt_or_ge j 512 with hjl | hjl
              · have hjl' : (j : Int) < 512 := by omega
                have HRD := Lib.hid ((Tb.out.later kx).read_ (by omega) j 1 (by omega))
                rw [hLb] at HRD
                have hcb := cut_back b (k := q) hjl
                by_cases hjq : j < q
                · have hjq' : decide ((j : Int) < (q : Int)) = true := decide_eq_true (by omega)
                  by_cases hjb : j < n6
                  · have hjb' : (j : Int) < (n6 : Int) := by omega
                    have hj6 : j < b.length := by rw [← HN6.out]; exact hjb
                    have ox := ob.kept kx (fun _ _ h => h)
                    rcases ox.2 with ⟨e, h0⟩ | ⟨g, cap, cur, e, _⟩
                    · injection e with e1 e2 e3
                      omega
                    · injection e with e1 e2 e3
                      subst e1
                      clear e2 e3
                      have cA := ox.cellAt j hj6
                      have hvv : ((sized (sized b q) 512).drop j).take 1 = [b[j]] := by
                        rw [hcb, if_pos ⟨hjq, hj6⟩, List.getD, List.getElem?_eq_getElem hj6]
                        rfl
                      clear hcb ox
                      rw [hvv] at HRD
                      go_wp2_with fail
                      refine HRD.out.mono ?_
                      rintro e w9 ⟨A9, c9, A9', c9', rfl, hr9, _, _, _, k9⟩
                      have hans : (Value.agg (ansC ⟨0, 0, 0, 0, [b[j]], []⟩ A9 c9 A9' c9')) = .agg #[.int .i64 0, .int .i64 0, .int .i64 0, .int .i64 0, .slice A9 1 c9, .slice A9' 0 c9'] := rfl
                      rw [hans]
                      clear hans
                      obtain ⟨a9, rfl, _, hc9⟩ := hr9.cells (k := 0) (show 0 < 1 by omega)
                      change w9.cell? (a9.add 0) = some (.int .u8 (b[j]).toNat) at hc9
                      have hc9' : w9.cell? a9 = some (.int .u8 (b[j]).toNat) := by rw [← addr_zero a9]; exact hc9
                      clear hr9
                      generalize (b[j]).toNat = vv at *
                      go_wp2_with fail
                      go_roundg (512 - (j + 1))
                      case measure => omega
                      case rel => exact ⟨j + 1, by omega, by omega, by go_num, KF.trans kx k9⟩
                  · have hjb' : ¬ (j : Int) < (n6 : Int) := by omega
                    have hvv : ((sized (sized b q) 512).drop j).take 1 = [0] := by
                      rw [hcb, if_neg (fun h => hjb (by rw [HN6.out]; exact h.2))]
                    clear hcb
                    rw [hvv] at HRD
                    go_wp2_with fail
                    refine HRD.out.mono ?_
                    rintro e w9 ⟨A9, c9, A9', c9', rfl, hr9, _, _, _, k9⟩
                    have hans : (Value.agg (ansC ⟨0, 0, 0, 0, [(0 : UInt8)], []⟩ A9 c9 A9' c9')) = .agg #[.int .i64 0, .int .i64 0, .int .i64 0, .int .i64 0, .slice A9 1 c9, .slice A9' 0 c9'] := rfl
                    rw [hans]
                    clear hans
                    obtain ⟨a9, rfl, _, hc9⟩ := hr9.cells (k := 0) (show 0 < 1 by omega)
                    change w9.cell? (a9.add 0) = some (.int .u8 ((0 : UInt8)).toNat) at hc9
                    have hc9' : w9.cell? a9 = some (.int .u8 ((0 : UInt8)).toNat) := by rw [← addr_zero a9]; exact hc9
                    clear hr9
                    change w9.cell? (a9.add 0) = some (.int .u8 0) at hc9
                    change w9.cell? a9 = some (.int .u8 0) at hc9'
                    go_wp2_with fail
                    go_roundg (512 - (j + 1))
                    case measure => omega
                    case rel => exact ⟨j + 1, by omega, by omega, by go_num, KF.trans kx k9⟩
                · have hjq' : decide ((j : Int) < (q : Int)) = false := decide_eq_false (by omega)
                  have hvv : ((sized (sized b q) 512).drop j).take 1 = [0] := by
                    rw [hcb, if_neg (fun h => hjq h.1)]
                  clear hcb
                  rw [hvv] at HRD
                  go_wp2_with fail
                  refine HRD.out.mono ?_
                  rintro e w9 ⟨A9, c9, A9', c9', rfl, hr9, _, _, _, k9⟩
                  have hans : (Value.agg (ansC ⟨0, 0, 0, 0, [(0 : UInt8)], []⟩ A9 c9 A9' c9')) = .agg #[.int .i64 0, .int .i64 0, .int .i64 0, .int .i64 0, .slice A9 1 c9, .slice A9' 0 c9'] := rfl
                  rw [hans]
                  clear hans
                  obtain ⟨a9, rfl, _, hc9⟩ := hr9.cells (k := 0) (show 0 < 1 by omega)
                  change w9.cell? (a9.add 0) = some (.int .u8 ((0 : UInt8)).toNat) at hc9
                  have hc9' : w9.cell? a9 = some (.int .u8 ((0 : UInt8)).toNat) := by rw [← addr_zero a9]; exact hc9
                  clear hr9
                  change w9.cell? (a9.add 0) = some (.int .u8 0) at hc9
                  change w9.cell? a9 = some (.int .u8 0) at hc9'
                  go_wp2_with fail
                  go_roundg (512 - (j + 1))
                  case measure => omega
                  case rel => exact ⟨j + 1, by omega, by omega, by go_num, KF.trans kx k9⟩
              · obtain rfl : j = 512 := by omega
                go_wp2_with fail
                go_ret
                exact ⟨rfl, KF.trans kwb kx⟩
  · go_wp2_with fail
    go_ret
    exact ⟨rfl, k12⟩
end Go.Proofs.YtlpjbgplimlcaaaGreatDoor
