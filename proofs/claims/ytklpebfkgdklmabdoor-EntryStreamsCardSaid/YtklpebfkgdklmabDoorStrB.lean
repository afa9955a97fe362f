/-
  WALKS: the function that reads the law's log.
-/
import Derived.Test.YtklpebfkgdklmabDoorStrA
namespace Go.Proofs.YtklpebfkgdklmabDoor
open Go.RowKit Go.Maps

set_option maxRecDepth 100000 in
set_option maxHeartbeats 1000000 in
theorem sread_any (R : List Int) (bL : Nat) (z : Int) (hz : 0 ≤ z) (X : World) (v : Value) (hv : X.heap[bL]? = some (.cells #[v] 38 (0, 0))) (ho : OwnC 26 7 encL X v (logR R)) (hR : R.length ≤ 1000) :
    Calls Tryd.prog 11 #[.int .i64 z, .pointer (some ⟨bL, 0, none⟩)] X (Reads (rdR R) z X) := by
  obtain ⟨X1, hX1⟩ : ∃ X1, X.alloc (.cells #[.int .i64 0, .int .i64 0, .int .i64 0, .int .i64 0, .int .i64 0, .int .i64 0, .slice none 0 0] 26) = X1 := ⟨_, rfl⟩
  obtain ⟨g0, hg0⟩ : ∃ g0, X.heap.size = g0 := ⟨_, rfl⟩
  have k1 : KF X X1 := by rw [← hX1]; exact (KF.refl _).alloc _
  have P : Lg X1 g0 (.int .i64 0) (.int .i64 0) (.int .i64 0) (.int .i64 0) (.int .i64 0) (.int .i64 0) (.slice none 0 0) := ⟨by rw [← hX1, ← hg0]; exact heap_alloc_new X _⟩
  have hb := (k1.block _ (lt_of_block hv) (fun h => h)).trans hv
  have hc := cell_of_one hb
  obtain ⟨A, c, rfl, _, _, hrd0, _⟩ := ho.shape encL_len
  have hrd := hrd0.keep (Nat.le_refl _) k1 (fun _ _ h => h)
  have hlR := logR_length R
  have HRD : Hid (Reads (rdR R) z X = fun e Y => KF X Y ∧ ((∃ x, rdR R z = some x ∧ e = .returned (.tuple #[.agg (ecells x none 0 0), .bool true])) ∨ (rdR R z = none ∧ e = .returned (.tuple #[.agg #[.int .i64 0, .int .i64 0, .int .i64 0, .int .i64 0, .int .i64 0, .int .i64 0, .slice none 0 0], .bool false])))) := Lib.hid rfl
  have HX1 := Lib.hid hX1
  have HG0 := Lib.hid hg0
  have hg0' : X.heap.size ≤ g0 := by omega
  have HG0' := Lib.hid hg0
  rw [hlR] at hb hc
  obtain ⟨u0, u1, u2, u3, u4, u5, u6⟩ := P.cells
  have f0 := P.free 0
  have f1 := P.free 1
  have f2 := P.free 2
  have f3 := P.free 3
  have f4 := P.free 4
  have f5 := P.free 5
  have f6 := P.free 6
  clear hX1 hg0 hv ho
  go_enter Tryd.func11, Tryd.ntmps11
  go_upto_region 1 with fail
  rw [HX1.out, HG0.out]
  clear HX1 HG0
  have hz1 : ¬ z < 0 := by omega
  by_cases hlt : (R.length : Int) ≤ z
  · have hnone : Hid (rdR R z = none) := Lib.hid (by unfold rdR; rw [if_pos (.inr hlt)])
    have FIN := Lib.hid (Lg_put (v0 := .int .i64 0) (v1 := .int .i64 0) (v2 := .int .i64 0) (v3 := .int .i64 0) (v4 := .int .i64 0) (v5 := .int .i64 0) (v6 := .slice none 0 0) P (by simp [NbLg]) (by simp [NbLg]) (by simp [NbLg]) (by simp [NbLg]) (by simp [NbLg]) (by simp [NbLg]) (by simp [NbLg]) (by simp [NbLg]) (by simp [NbLg]) (by simp [NbLg]) (by simp [NbLg]) (by simp [NbLg]) (by simp [NbLg]))
    clear P
    go_wp2_with fail
    obtain ⟨e1, e2, _, _⟩ := FIN.out
    obtain ⟨d0, d1, d2, d3, d4, d5, d6⟩ := e1.cells
    clear FIN
    refine bodyPost_ret (v := .tuple #[.agg #[.int .i64 0, .int .i64 0, .int .i64 0, .int .i64 0, .int .i64 0, .int .i64 0, .slice none 0 0], .bool false]) (by simp [results, Tryd.results11, go_sem, d0, d1, d2, d3, d4, d5, d6]) rfl ?_
    rw [HRD.out]
    exact ⟨Keep.trans k1 e2 (fun i hi (h : i = g0) => by omega), .inr ⟨hnone.out, rfl⟩⟩
  · obtain ⟨k, rfl⟩ : ∃ k : Nat, z = (k : Int) := ⟨z.toNat, by omega⟩
    have hk : k < (logR R).length := by rw [hlR]; omega
    have hkR : k < R.length := by omega
    have hsome : Hid (rdR R (k : Int) = some (logR R)[k]) := Lib.hid (by unfold rdR; rw [if_neg (by omega), Int.toNat_natCast]; exact List.getElem?_eq_getElem hk)
    have hpay := logR_pay R _ (List.getElem_mem hk)
    obtain ⟨b, o, rfl, hbb, hcells⟩ := hrd k _ (List.getElem?_eq_getElem hk)
    generalize (logR R)[k] = x at *
    have m0 := hcells 0 _ rfl
    have m1 := hcells 1 _ rfl
    have m2 := hcells 2 _ rfl
    have m3 := hcells 3 _ rfl
    have m4 := hcells 4 _ rfl
    have m5 := hcells 5 _ rfl
    have m6 := hcells 6 _ rfl
    rw [Nat.add_zero] at m0
    have FIN := Lib.hid (Lg_put (v0 := .int .i64 x.kind) (v1 := .int .i64 x.client) (v2 := .int .i64 x.birth) (v3 := .int .i64 x.number) (v4 := .int .i64 x.stream) (v5 := .int .i64 x.back) (v6 := .slice none 0 0) P (by simp [NbLg]) (by simp [NbLg]) (by simp [NbLg]) (by simp [NbLg]) (by simp [NbLg]) (by simp [NbLg]) (by simp [NbLg]) (by simp [NbLg]) (by simp [NbLg]) (by simp [NbLg]) (by simp [NbLg]) (by simp [NbLg]) (by simp [NbLg]))
    have hkk : (k : Int) < (R.length : Int) := by omega
    have hne : b ≠ g0 := by have := HG0'.out; omega
    clear P hcells hrd hrd0 hbb
    · go_wp2_with fail
      obtain ⟨e1, e2, _, _⟩ := FIN.out
      obtain ⟨d0, d1, d2, d3, d4, d5, d6⟩ := e1.cells
      clear FIN
      refine bodyPost_ret (v := .tuple #[.agg (ecells x none 0 0), .bool true]) (by simp [results, Tryd.results11, go_sem, d0, d1, d2, d3, d4, d5, d6]) rfl ?_
      rw [HRD.out]
      exact ⟨Keep.trans k1 e2 (fun i hi (h : i = g0) => by omega), .inl ⟨x, hsome.out, rfl⟩⟩
end Go.Proofs.YtklpebfkgdklmabDoor
