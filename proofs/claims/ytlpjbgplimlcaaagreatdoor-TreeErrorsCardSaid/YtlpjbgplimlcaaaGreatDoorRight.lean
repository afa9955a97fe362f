/-
  The reference's Right answers true of the nodes of every tree.
-/
import Derived.Test.YtlpjbgplimlcaaaGreatDoorErrors
import Derived.Test.YtlpjbgplimlcaaaGreatDoorRightMath
import Derived.Deep.WholeRow
namespace Go.Proofs.YtlpjbgplimlcaaaGreatDoor
open Go.RowKit Go.Maps

/-- An array of 64 cells. -/
def arr (F : Nat → Value) : Array Value := ((List.range 64).map F).toArray
def Arr (w : World) (g : Nat) (T : TypeId) (F : Nat → Value) : Prop := w.heap[g]? = some (.cells (arr F) T (0, 0))
section
variable {w w' : World} {g : Nat} {T : TypeId} {F : Nat → Value}
theorem Arr.cell (h : Arr w g T F) {m : Nat} (hm : m < 64) : w.cell? ⟨g, m, none⟩ = some (F m) := by
  refine cell_of_heap h ?_
  simp [arr, hm]
theorem Arr.free (h : Arr w g T F) (m : Nat) : w.frozen? ⟨g, m, none⟩ = false := by simp [World.frozen?, show w.heap[g]? = _ from h]
theorem arr_set (F : Nat → Value) (m : Nat) (v : Value) : (arr F).setIfInBounds m v = arr (upN F m v) := by
  apply Array.ext
  · simp [arr]
  · intro i h1 h2
    have hi : i < (arr F).size := by simpa using h1
    have e1 : (arr F)[i]'hi = F i := by simp [arr]
    have e3 : (arr (upN F m v))[i]'h2 = upN F m v i := by simp [arr]
    rw [e3, Array.getElem_setIfInBounds hi]
    unfold upN
    by_cases h : m = i
    · subst h; simp
    · rw [if_neg h, if_neg (fun h' => h h'.symm)]
      exact e1
theorem Arr.set (h : Arr w g T F) (m : Nat) (v : Value) : Arr (w.setCell ⟨g, m, none⟩ v) g T (upN F m v) := by
  unfold Arr
  rw [heap_setCell_same w g m _ T v h, arr_set]
theorem Arr.lt (h : Arr w g T F) : g < w.heap.size := lt_of_block h
theorem Arr.keep {S : Nat → Prop} (h : Arr w g T F) (k : Keep S w w') (hn : ¬ S g) : Arr w' g T F := (k.block g h.lt hn).trans h
end
def iF (S : Nat → Nat) : Nat → Value := fun m => .int .i64 (S m : Int)
def bF (S : Nat → Bool) : Nat → Value := fun m => .bool (S m)
theorem iF_upN (S : Nat → Nat) (m v : Nat) : upN (iF S) m (.int .i64 (v : Int)) = iF (upN S m v) := by
  funext k
  unfold upN iF
  by_cases h : k = m
  · simp [h]
  · simp [h]
theorem bF_upN (S : Nat → Bool) (m : Nat) (v : Bool) : upN (bF S) m (.bool v) = bF (upN S m v) := by
  funext k
  unfold upN bF
  by_cases h : k = m
  · simp [h]
  · simp [h]

/-- An array of 64 noughts, of 64 times no. -/
def zI : Array Value := arr (iF fun _ => 0)
def zB : Array Value := arr (bF fun _ => false)
theorem zeroI (w : World) : (zeroValue 73).run Tryz.prog w = .ok (.agg zI) w := by rw [Tryz.zeroValue73]; rfl
theorem zeroB (w : World) : (zeroValue 75).run Tryz.prog w = .ok (.agg zB) w := by rw [Tryz.zeroValue75]; rfl
theorem storeI (w : World) : (storeCells ⟨w.heap.size, 0, none⟩ zI.toList 0).run Tryz.prog (w.alloc (.cells zI 73)) = .ok () (w.alloc (.cells zI 73)) :=
  run_storeCells_new w 73 zI zI (by kernel_rfl) rfl (by kernel_rfl)
theorem storeB (w : World) : (storeCells ⟨w.heap.size, 0, none⟩ zB.toList 0).run Tryz.prog (w.alloc (.cells zB 75)) = .ok () (w.alloc (.cells zB 75)) :=
  run_storeCells_new w 75 zB zB (by kernel_rfl) rfl (by kernel_rfl)
theorem zI_size : zI.size = 64 := by simp [zI, arr]
theorem zB_size : zB.size = 64 := by simp [zB, arr]
attribute [local go_sem] zI_size zB_size
attribute [local go_sem ↓] zeroI zeroB storeI storeB

/-- A node of the row, by its place. -/
theorem node_at {t : Tr} {w wr : World} {A : Option Addr} {k : Nat} (hr : NodesAt w w.heap.size A (nodesOf t)) (hk : k < (having t).length) (kr : KF w wr) :
    ∃ b o x A4 c4, A = some ⟨b, o, none⟩ ∧ x < 64 ∧ (t x).kind ≠ 0 ∧ (having t).take (k + 1) = (having t).take k ++ [x] ∧ wr.cell? ⟨b, o + k * 5, none⟩ = some (.int .i64 (x : Int)) ∧ wr.cell? ⟨b, o + k * 5 + 2, none⟩ = some (.int .i64 ((t x).links : Int)) ∧
      wr.cell? ⟨b, o + k * 5 + 4, none⟩ = some (.slice A4 (t x).entries.length c4) ∧ Ents w w.heap.size A4 (t x).entries ∧ b < w.heap.size := by
  obtain ⟨b, o, A3, c3, A4, c4, rfl, hbb, n0, n1, n2, n3, n4, hr1, he1⟩ := hr k (nodeV t (having t)[k]) (by unfold nodesOf; rw [List.getElem?_map, List.getElem?_eq_getElem hk]; rfl)
  have hmem := having_mem.1 (List.getElem_mem hk)
  exact ⟨b, o, (having t)[k], A4, c4, rfl, hmem.1, hmem.2, List.take_succ_eq_append_getElem hk, (kr.cell (p := ⟨b, o + k * 5, none⟩) hbb).trans n0, (kr.cell (p := ⟨b, o + k * 5 + 2, none⟩) hbb).trans n2, (kr.cell (p := ⟨b, o + k * 5 + 4, none⟩) hbb).trans n4, he1, hbb⟩

set_option maxRecDepth 100000 in
set_option maxHeartbeats 4000000 in
theorem right_any (t : Tr) (A : Option Addr) (n c : Nat) (w : World) (g : Good t) (hn : n = (having t).length) (hsm : ∀ m, (t m).entries.length ≤ 1000000) (hr : NodesAt w w.heap.size A (nodesOf t)) :
    Calls Tryz.prog 19 #[.slice A n c] w fun e w' => e = .returned (.bool true) ∧ KF w w' := by
  have HN := Lib.hid hn
  have HR := Lib.hid hr
  have HG := Lib.hid g
  have HSM := Lib.hid hsm
  have hn64 : n ≤ 64 := by rw [hn]; exact having_le t
  clear hn hr g hsm
  obtain ⟨w1, hw1⟩ : ∃ w1, w.alloc (.cells zI 73) = w1 := ⟨_, rfl⟩
  obtain ⟨w2, hw2⟩ : ∃ w2, w1.alloc (.cells zI 73) = w2 := ⟨_, rfl⟩
  have a1 : Arr w1 w.heap.size 73 (iF fun _ => 0) := by rw [← hw1]; exact heap_alloc_new w _
  have a2 : Arr w2 w1.heap.size 73 (iF fun _ => 0) := by rw [← hw2]; exact heap_alloc_new w1 _
  have k12 : KF w1 w2 := by rw [← hw2]; exact (KF.refl _).alloc _
  have k01 : KF w w1 := by rw [← hw1]; exact (KF.refl _).alloc _
  have A1 := Lib.hid (a1.keep k12 (fun h => h))
  have A2 := Lib.hid a2
  have hlt : w.heap.size < w1.heap.size := a1.lt
  have k02 := KF.trans k01 k12
  have HW1 := Lib.hid hw1
  have HW2 := Lib.hid hw2
  clear a1 a2 k12 k01 hw1 hw2
  go_enter Tryz.func19, Tryz.ntmps19
  go_upto_region 2 with fail
  rw [HW1.out]
  go_upto_region 3 with fail
  rw [HW2.out]
  clear HW1 HW2
  obtain ⟨g1, hq1⟩ : ∃ g1, w.heap.size = g1 := ⟨_, rfl⟩
  obtain ⟨g2, hq2⟩ : ∃ g2, w1.heap.size = g2 := ⟨_, rfl⟩
  rw [hq1] at A1 hlt ⊢
  rw [hq2] at A2 hlt ⊢
  have hg1 : w.heap.size ≤ g1 := by omega
  have hg2 : w.heap.size ≤ g2 := by omega
  clear hq1 hq2
  go_wp2_with fail
  go_loopg [5] n (fun gh i wr => ∃ k : Nat, k ≤ n ∧ n - k ≤ gh ∧ i = .int .i64 k ∧ KF w wr ∧ Hid (Arr wr g1 73 (iF (seenK t ((having t).take k)))) ∧ Hid (Arr wr g2 73 (iF (kindK t ((having t).take k)))))
  case atStart =>
    refine ⟨0, by omega, by omega, rfl, k02, A1, ?_⟩
    have e : kindK t ((having t).take 0) = fun _ => 0 := by funext m; simp [kindK]
    rw [e]
    exact A2
  case round =>
    obtain ⟨k, hk, hgk, rfl, kr, B1, B2⟩ := hrel
    rcases Nat.lt_or_ge k n with hlt1 | hge1
    · have hlt1' : (k : Int) < (n : Int) := by omega
      have q1 : k < (having t).length := by rw [← HN.out]; exact hlt1
      have HTK := Lib.hid (show (having t).take (k + 1) = (having t).take k ++ [(having t)[k]] from List.take_succ_eq_append_getElem q1)
      have hmem := having_mem.1 (List.getElem_mem q1)
      obtain ⟨b, o, A3, c3, A4, c4, rfl, hbb, n0, n1, n2, n3, n4, hr1, he1⟩ := HR.out k (nodeV t (having t)[k]) (by unfold nodesOf; rw [List.getElem?_map, List.getElem?_eq_getElem q1]; rfl)
      have R := Lib.hid hr1
      have T := Lib.hid he1
      have hprev : 0 < k → ∃ z : Int, w.cell? ⟨b, o + (k - 1) * 5, none⟩ = some (.int .i64 z) ∧ z < ((having t)[k] : Int) := fun h0 => by
        obtain ⟨b', o', A3', c3', A4', c4', e, _, m0, _⟩ := HR.out (k - 1) (nodeV t ((having t)[k - 1]'(by omega))) (by unfold nodesOf; rw [List.getElem?_map, List.getElem?_eq_getElem (by omega)]; rfl)
        injection e with e
        injection e with e1 e2
        subst e1 e2
        exact ⟨_, m0, by have := having_lt (t := t) (i := k - 1) (j := k) (by omega) q1; exact Int.ofNat_lt.2 this⟩
      have HP := Lib.hid hprev
      clear hr1 he1 hprev
      generalize (having t)[k] = x at *
      obtain ⟨w3, hw3⟩ : ∃ w3 : World, w3 = wr := ⟨_, rfl⟩
      subst hw3
      have cell := fun (p : Addr) (hp : p.block < w.heap.size) => kr.cell hp
      rw [← cell _ hbb] at n0 n1 n2 n3 n4
      have z0 : (nodeV t x).number = x := rfl
      have z1 : (nodeV t x).kind = (t x).kind := rfl
      have z2 : (nodeV t x).links = (t x).links := rfl
      have z3 : (nodeV t x).data = (t x).data := rfl
      have z4 : (nodeV t x).entries = (t x).entries := rfl
      rw [z0] at n0
      rw [z1] at n1
      rw [z2] at n2
      rw [z3] at n3 R
      rw [z4] at n4 T
      clear z0 z1 z2 z3 z4 cell
      have hk1 := HG.out.kinds x
      obtain ⟨hx64, hx0⟩ := hmem
      have hle6 := HSM.out x
      have fdir := HG.out.dir x
      have ffile := HG.out.file x
      have fcount := fun h => HG.out.count x h hx0
      have hroot := HG.out.root
      generalize hkd : (t x).kind = kd at *
      generalize hld : (t x).data.length = ld at *
      generalize hlk : (t x).links = lk at *
      generalize hle : (t x).entries.length = le at *
      have HKD := Lib.hid hkd
      have HLD := Lib.hid hld
      have HLK := Lib.hid hlk
      have HLE := Lib.hid hle
      have cases1 : (kd = 2 ∧ le = 0 ∧ ld ≤ 512 ∧ 1 ≤ lk) ∨ (kd = 1 ∧ lk = 1 ∧ ld = 0) := by
        rcases (show kd = 1 ∨ kd = 2 by omega) with h | h
        · refine .inr ⟨h, (fdir h).1, ?_⟩
          rw [← hld, (fdir h).2]
          rfl
        · refine .inl ⟨h, ?_, (ffile h).2, (fcount fun e => ?_).2⟩
          · rw [← hle, (ffile h).1]
            rfl
          · subst e
            rw [hkd] at hroot
            omega
      have C1 := Lib.hid cases1
      clear fdir ffile fcount hroot hkd hld hlk hle hk1 cases1
      have d1 : decide ((x : Int) < 0) = false := decide_eq_false (by omega)
      have d2 : decide ((63 : Int) < (x : Int)) = false := decide_eq_false (by omega)
      obtain ⟨w4, hw4⟩ : ∃ w4, w3.alloc (.cells #[.int .i64 x, .int .i64 kd, .int .i64 lk, .slice A3 ld c3, .slice A4 le c4] 47) = w4 := ⟨_, rfl⟩
      have HW4 := Lib.hid hw4
      obtain ⟨gx, hgx⟩ : ∃ gx, w3.heap.size = gx := ⟨_, rfl⟩
      have HGX := Lib.hid hgx
      have b4 : w4.heap[gx]? = some (.cells #[.int .i64 x, .int .i64 kd, .int .i64 lk, .slice A3 ld c3, .slice A4 le c4] 47) := by rw [← hw4, ← hgx]; exact heap_alloc_new w3 _
      have f0 : w4.cell? ⟨gx, 0, none⟩ = some (.int .i64 x) := cell_of_heap b4 rfl
      have f1 : w4.cell? ⟨gx, 1, none⟩ = some (.int .i64 kd) := cell_of_heap b4 rfl
      have f2 : w4.cell? ⟨gx, 2, none⟩ = some (.int .i64 lk) := cell_of_heap b4 rfl
      have f3 : w4.cell? ⟨gx, 3, none⟩ = some (.slice A3 ld c3) := cell_of_heap b4 rfl
      have f4 : w4.cell? ⟨gx, 4, none⟩ = some (.slice A4 le c4) := cell_of_heap b4 rfl
      have k34 : KF w3 w4 := by rw [← hw4]; exact (KF.refl w3).alloc _
      clear hw4 hgx b4
      go_upto_region 7 with fail
      rw [HW4.out, HGX.out]
      go_cut [50] (fun s wx => s = .bool false ∧ ∃ m, wx = w4.drewN m)
      case first =>
        --DEV<
        rcases Nat.eq_zero_or_pos k with h0 | h0
        · have d3 : decide ((0 : Int) < (k : Int)) = false := decide_eq_false (by omega)
          go_quiet (fail)
          go_wp2_with fail
          go_meet
          exact ⟨rfl, _, rfl⟩
        · obtain ⟨z, hz, hzx⟩ := HP.out h0
          obtain ⟨k1, rfl⟩ : ∃ k1, k = k1 + 1 := ⟨k - 1, by omega⟩
          rw [Nat.add_sub_cancel] at hz
          rw [← kr.cell (p := ⟨b, o + k1 * 5, none⟩) hbb, ← k34.cell (p := ⟨b, o + k1 * 5, none⟩) (Nat.lt_of_lt_of_le hbb kr.size)] at hz
          have d3 : decide ((0 : Int) < ((k1 + 1 : Nat) : Int)) = true := decide_eq_true (by omega)
          have d4 : decide ((x : Int) ≤ z) = false := decide_eq_false (by omega)
          have e1 : wrap64 (((k1 + 1 : Nat) : Int) - 1) = (k1 : Int) := by rw [IntWalk.wrap64_in _ ⟨by omega, by omega⟩]; omega
          have i1 : (k1 : Int) < (n : Int) := by omega
          go_quiet (fail)
          go_wp2_with fail
          go_meet
          exact ⟨rfl, _, rfl⟩
        --DEV>
      case rest =>
        obtain ⟨rfl, mq, rfl⟩ := hcut
        have k4 := (k34.drewN mq)
        have kr4 := KF.trans kr k4
        have B1' := Lib.hid (B1.out.keep k4 (fun h => h))
        have B2' := Lib.hid (B2.out.keep k4 (fun h => h))
        have hgx : ∀ g, Arr w3 g 73 (iF (seenK t ((having t).take k))) → g ≠ gx := fun g h => by have := h.lt; have := HGX.out; omega
        have hgx' : ∀ g, Arr w3 g 73 (iF (kindK t ((having t).take k))) → g ≠ gx := fun g h => by have := h.lt; have := HGX.out; omega
        have hn1 := hgx _ B1.out
        have hn2 := hgx' _ B2.out
        clear hgx hgx' B1 B2 HW4
        obtain ⟨w5, hw5⟩ : ∃ w5, w4.drewN mq = w5 := ⟨_, rfl⟩
        have e0 : w5.cell? ⟨gx, 0, none⟩ = some (.int .i64 x) := hw5 ▸ f0
        have e1 : w5.cell? ⟨gx, 1, none⟩ = some (.int .i64 kd) := hw5 ▸ f1
        have e2 : w5.cell? ⟨gx, 2, none⟩ = some (.int .i64 lk) := hw5 ▸ f2
        have e3 : w5.cell? ⟨gx, 3, none⟩ = some (.slice A3 ld c3) := hw5 ▸ f3
        have e4 : w5.cell? ⟨gx, 4, none⟩ = some (.slice A4 le c4) := hw5 ▸ f4
        have hgxl : gx < w5.heap.size := World.block_lt_of_cell? _ _ e4
        rw [hw5] at B1' B2' kr4 k4 ⊢
        clear hw5 f0 f1 f2 f3 f4 k34 n0 n1 n2 n3 n4
        have st1 := (B2'.out.free x)
        have st2 := B2'.out.cell hx64
        have x64 : (x : Int) < 64 := by omega
        have hseen : ∀ es : Row, es.length ≤ 1000000 → ∀ m, seenJ t ((having t).take k) es m ≤ 65000000 := fun es hes m => by
          have h1 := seenJ_le (t := t) HSM.out ((having t).take k) es m
          have h2 : ((having t).take k).length ≤ 64 := by rw [List.length_take]; omega
          have h3 := Nat.mul_le_mul_right 1000000 h2
          omega
        have HSE := Lib.hid hseen
        clear hseen
        have KB : Hid (∀ v : Nat, v = (t x).kind → KF w (w5.setCell ⟨g2, x, none⟩ (.int .i64 (v : Int))) ∧ Arr (w5.setCell ⟨g2, x, none⟩ (.int .i64 (v : Int))) g1 73 (iF (seenK t ((having t).take k))) ∧ Arr (w5.setCell ⟨g2, x, none⟩ (.int .i64 (v : Int))) g2 73 (iF (kindK t ((having t).take (k + 1)))) ∧
            (∀ j v', w5.cell? ⟨gx, j, none⟩ = some v' → (w5.setCell ⟨g2, x, none⟩ (.int .i64 (v : Int))).cell? ⟨gx, j, none⟩ = some v')) := Lib.hid fun v hv => by
          have k5 : Keep (fun q => q = g2) w5 (w5.setCell ⟨g2, x, none⟩ (.int .i64 (v : Int))) := (Keep.refl (fun q => q = g2) w5).setCell (p := ⟨g2, x, none⟩) (.inr rfl) _
          refine ⟨kr4.setCell (.inl hg2) _, B1'.out.keep k5 (fun h : g1 = g2 => by omega), ?_, fun j v' hv' => (k5.cell (p := ⟨gx, j, none⟩) hgxl (fun h : gx = g2 => hn2 h.symm)).trans hv'⟩
          rw [HTK.out, kindK_snoc, ← hv, ← iF_upN]
          exact B2'.out.set x _
        rcases C1.out with ⟨rfl, rfl, hld5, hlk1⟩ | ⟨rfl, rfl, rfl⟩
        · --DEV<
          obtain ⟨K6, D1, D2, D3⟩ := KB.out 2 HKD.out.symm
          have HD1 := Lib.hid D1
          have HD2 := Lib.hid D2
          clear D1 D2 KB B1' B2' C1
          have g4 := D3 4 _ e4
          clear D3
          have hes : (t x).entries = [] := List.eq_nil_of_length_eq_zero HLE.out
          have HES := Lib.hid hes
          clear hes
          go_wp2_with fail
          obtain ⟨w6, hw6⟩ : ∃ w6, w5.setCell ⟨g2, x, none⟩ (.int .i64 2) = w6 := ⟨_, rfl⟩
          change (w5.setCell ⟨g2, x, none⟩ (.int .i64 2)).cell? _ = _ at g4
          change KF w (w5.setCell ⟨g2, x, none⟩ (.int .i64 2)) at K6
          change Hid (Arr (w5.setCell ⟨g2, x, none⟩ (.int .i64 2)) _ _ _) at HD1
          change Hid (Arr (w5.setCell ⟨g2, x, none⟩ (.int .i64 2)) _ _ _) at HD2
          rw [hw6] at HD1 HD2 g4 K6 ⊢
          clear hw6
          go_loopg [7] 0 (fun gh i wr => i = .int .i64 0 ∧ wr = w6)
          case atStart => exact ⟨rfl, rfl⟩
          case round =>
            obtain ⟨rfl, rfl⟩ := hrel
            go_wp2_with fail
            go_roundg (n - (k + 1))
            case measure => omega
            case rel => exact ⟨k + 1, by omega, by omega, by go_num, K6, Lib.hid (by rw [HTK.out, ← seenJ_all, HES.out, seenJ_nil]; exact HD1.out), HD2⟩
          --DEV>
        · obtain ⟨K6, D1, D2, D3⟩ := KB.out 1 HKD.out.symm
          have HD1 := Lib.hid D1
          have HD2 := Lib.hid D2
          clear D1 D2 KB B1' B2' C1
          have g4 := D3 4 _ e4
          clear D3
          go_wp2_with fail
          obtain ⟨w6, hw6⟩ : ∃ w6, w5.setCell ⟨g2, x, none⟩ (.int .i64 1) = w6 := ⟨_, rfl⟩
          change (w5.setCell ⟨g2, x, none⟩ (.int .i64 1)).cell? _ = _ at g4
          change KF w (w5.setCell ⟨g2, x, none⟩ (.int .i64 1)) at K6
          change Hid (Arr (w5.setCell ⟨g2, x, none⟩ (.int .i64 1)) _ _ _) at HD1
          change Hid (Arr (w5.setCell ⟨g2, x, none⟩ (.int .i64 1)) _ _ _) at HD2
          rw [hw6] at HD1 HD2 g4 K6 ⊢
          clear hw6 e0 e1 e2 e3 e4 st1 st2
          have hgl6 : gx < w6.heap.size := World.block_lt_of_cell? _ _ g4
          go_loopg [7] le (fun gh i wr => ∃ j : Nat, j ≤ le ∧ le - j ≤ gh ∧ i = .int .i64 j ∧ Keep (fun q => q = g1) w6 wr ∧ Hid (Arr wr g1 73 (iF (seenJ t ((having t).take k) ((t x).entries.take j)))))
          case atStart => exact ⟨0, by omega, by omega, rfl, Keep.refl _ _, Lib.hid (by rw [List.take_zero, seenJ_nil]; exact HD1.out)⟩
          case round =>
            obtain ⟨j, hj, hgj, rfl, kj, E1⟩ := hrel
            have K7 : KF w wr := Keep.trans K6 kj (fun i hi (h : i = g1) => by omega)
            have g4' : wr.cell? ⟨gx, 4, none⟩ = some (.slice A4 le c4) := (kj.cell (p := ⟨gx, 4, none⟩) hgl6 (fun h : gx = g1 => hn1 h.symm)).trans g4
            have hgl7 : gx < wr.heap.size := World.block_lt_of_cell? _ _ g4'
            have E2 := Lib.hid (HD2.out.keep kj (fun h : g2 = g1 => by omega))
            rcases Nat.lt_or_ge j le with hjl | hjl
            · have hjl' : (j : Int) < (le : Int) := by omega
              have q2 : j < (t x).entries.length := by rw [HLE.out]; exact hjl
              obtain ⟨b2, o2, rfl, hb2, m1, m2⟩ := T.out.at_ q2
              have hen := HG.out.entry x _ (List.getElem_mem q2)
              have hen64 := HG.out.lt hen.2.2
              have HTJ := Lib.hid (show (t x).entries.take (j + 1) = (t x).entries.take j ++ [(t x).entries[j]] from List.take_succ_eq_append_getElem q2)
              have hprev : 0 < j → ∃ P : ByteArray, w.cell? ⟨b2, o2 + (j - 1) * 2, none⟩ = some (.string P) ∧ Op.bytesLess P.toList (ba (t x).entries[j].1).toList = true := fun h0 => by
                obtain ⟨b', o', e, _, m0, _⟩ := T.out.at_ (j := j - 1) (by omega)
                injection e with e
                injection e with e1 e2
                subst e1 e2
                refine ⟨_, m0, ?_⟩
                rw [Lib.toList_data, Lib.toList_data]
                exact List.pairwise_iff_getElem.1 (HG.out.rising x) (j - 1) j (by omega) q2 (by omega)
              have HPV := Lib.hid hprev
              clear hprev
              generalize (t x).entries[j] = en at *
              obtain ⟨nm, nd⟩ := en
              have hnm : decide (IsName (ba nm).data.toList) = true := decide_eq_true hen.1
              have hnd0 : nd ≠ 0 := hen.2.1
              have hnd64 : nd < 64 := hen64
              have hsz : (ba nm).size ≤ 9223372036854775807 := by rw [ba_size]; have := hen.1.2.2.1; have : nm.length ≤ 16 := this; omega
              have RN0 := fun wx => rname_same (ba nm) wx hsz
              rw [hnm] at RN0
              have RN := Lib.hid RN0
              change w.cell? _ = some (.string (ba nm)) at m1
              change w.cell? _ = some (.int .i64 (nd : Int)) at m2
              have HPV : Hid (0 < j → ∃ P : ByteArray, w.cell? ⟨b2, o2 + (j - 1) * 2, none⟩ = some (.string P) ∧ Op.bytesLess P.toList (ba nm).toList = true) := HPV
              clear RN0 hen hnm hsz hen64
              generalize ba nm = Q at *
              have d3 : decide ((nd : Int) < 1) = false := decide_eq_false (by omega)
              have d4 : decide ((63 : Int) < (nd : Int)) = false := decide_eq_false (by omega)
              rw [← K7.cell (p := ⟨b2, o2 + j * 2, none⟩) hb2] at m1
              rw [← K7.cell (p := ⟨b2, o2 + j * 2 + 1, none⟩) hb2] at m2
              obtain ⟨w7, hw7⟩ : ∃ w7, wr.alloc (.cells #[.string Q, .int .i64 nd] 62) = w7 := ⟨_, rfl⟩
              obtain ⟨ge, hge⟩ : ∃ ge, wr.heap.size = ge := ⟨_, rfl⟩
              have b7 : w7.heap[ge]? = some (.cells #[.string Q, .int .i64 nd] 62) := by rw [← hw7, ← hge]; exact heap_alloc_new wr _
              have f0 : w7.cell? ⟨ge, 0, none⟩ = some (.string Q) := cell_of_heap b7 rfl
              have f1 : w7.cell? ⟨ge, 1, none⟩ = some (.int .i64 nd) := cell_of_heap b7 rfl
              have kr7 : KF wr w7 := by rw [← hw7]; exact (KF.refl wr).alloc _
              have g47 : w7.cell? ⟨gx, 4, none⟩ = some (.slice (some ⟨b2, o2, none⟩) le c4) := (kr7.cell (p := ⟨gx, 4, none⟩) hgl7).trans g4'
              have HW7 := Lib.hid hw7
              have HGE := Lib.hid hge
              have hge1 : g1 < ge := by have := E1.out.lt; omega
              clear hw7 hge b7
              go_upto_region 19 with fail
              rw [HW7.out, HGE.out]
              go_cut [129] (fun s wx => s = .bool false ∧ ∃ m, wx = w7.drewN m)
              case first =>
                --DEV<
                rcases Nat.eq_zero_or_pos j with h0 | h0
                · have d5 : decide ((0 : Int) < (j : Int)) = false := decide_eq_false (by omega)
                  go_quiet ((go_at_call 32; exact Calls.quiet_of_same (RN.out _)))
                  go_wp2_with fail
                  go_meet
                  exact ⟨rfl, _, rfl⟩
                · obtain ⟨P, hP, hPQ⟩ := HPV.out h0
                  obtain ⟨j1, rfl⟩ : ∃ j1, j = j1 + 1 := ⟨j - 1, by omega⟩
                  rw [Nat.add_sub_cancel] at hP
                  rw [← K7.cell (p := ⟨b2, o2 + j1 * 2, none⟩) hb2, ← kr7.cell (p := ⟨b2, o2 + j1 * 2, none⟩) (Nat.lt_of_lt_of_le hb2 K7.size)] at hP
                  have d5 : decide ((0 : Int) < ((j1 + 1 : Nat) : Int)) = true := decide_eq_true (by omega)
                  have e5 : wrap64 (((j1 + 1 : Nat) : Int) - 1) = (j1 : Int) := by rw [IntWalk.wrap64_in _ ⟨by omega, by omega⟩]; omega
                  have i5 : (j1 : Int) < (le : Int) := by omega
                  go_quiet ((go_at_call 32; exact Calls.quiet_of_same (RN.out _)))
                  go_wp2_with fail
                  go_meet
                  exact ⟨rfl, _, rfl⟩
                --DEV>
              case rest =>
                --DEV<
                obtain ⟨rfl, mq2, rfl⟩ := hcut
                have k8 := kr7.drewN mq2
                have f1' : (w7.drewN mq2).cell? ⟨ge, 1, none⟩ = some (.int .i64 nd) := f1
                obtain ⟨w8, hw8⟩ : ∃ w8, w7.drewN mq2 = w8 := ⟨_, rfl⟩
                rw [hw8] at k8 f1' ⊢
                clear hw8 f0 f1 g47 kr7
                have G1 := Lib.hid (E1.out.keep k8 (fun h => h))
                have kj8 : Keep (fun q => q = g1) w6 w8 := kj.trans k8 (fun i hi h => h.elim)
                have r1 := G1.out.free nd
                have r2 := G1.out.cell hnd64
                have hsb := HSE.out ((t x).entries.take j) (by rw [List.length_take]; omega) nd
                have HSN := Lib.hid (seenJ_snoc t ((having t).take k) ((t x).entries.take j) (nm, nd))
                change w8.cell? _ = some (.int .i64 (seenJ t ((having t).take k) ((t x).entries.take j) nd : Int)) at r2
                have GS : Hid (Arr (w8.setCell ⟨g1, nd, none⟩ (.int .i64 ((seenJ t ((having t).take k) ((t x).entries.take j) nd + 1 : Nat) : Int))) g1 73 (iF (seenJ t ((having t).take k) ((t x).entries.take (j + 1))))) := Lib.hid (by
                  rw [HTJ.out, HSN.out, ← iF_upN]
                  exact G1.out.set nd _)
                have kj9 : Keep (fun q => q = g1) w6 (w8.setCell ⟨g1, nd, none⟩ (.int .i64 ((seenJ t ((having t).take k) ((t x).entries.take j) nd + 1 : Nat) : Int))) := kj8.setCell (.inr rfl) _
                generalize seenJ t ((having t).take k) ((t x).entries.take j) nd = sv at *
                have hnd64' : (nd : Int) < 64 := by omega
                have wr1 : wrap64 ((sv : Int) + 1) = ((sv + 1 : Nat) : Int) := by rw [IntWalk.wrap64_in _ ⟨by omega, by omega⟩]; omega
                go_wp2_with fail
                go_roundg (le - (j + 1))
                case measure => omega
                case rel => exact ⟨j + 1, by omega, by omega, by go_num, kj9, GS⟩
                --DEV>
            · obtain rfl : j = le := by omega
              have hjl' : ¬ (j : Int) < (j : Int) := by omega
              go_wp2_with fail
              go_roundg (n - (k + 1))
              case measure => omega
              case rel => exact ⟨k + 1, by omega, by omega, by go_num, K7, Lib.hid (by rw [HTK.out, ← seenJ_all]; have h := E1.out; rw [List.take_of_length_le (l := (t x).entries) (by rw [HLE.out]; exact Nat.le_refl _)] at h; exact h), E2⟩
    · obtain rfl : k = n := by omega
      have hlt1' : ¬ (k : Int) < (k : Int) := by omega
      have e1 : (having t).take k = having t := List.take_of_length_le (by rw [← HN.out]; exact Nat.le_refl _)
      rw [e1] at B1 B2
      clear e1
      have fS : seenK t (having t) = fun m => allRefs t m := by funext m; exact seenK_all HG.out m
      have fK : kindK t (having t) = fun m => (t m).kind := by funext m; exact kindK_all HG.out m
      rw [fS] at B1
      rw [fK] at B2
      clear fS fK A1 A2 hk hgk hge1 hlt1' k02
      have c20 : wr.cell? ⟨g2, 0, none⟩ = some (.int .i64 1) := by
        have h := B2.out.cell (m := 0) (by omega)
        have h0 := HG.out.root.1
        change wr.cell? _ = some (.int .i64 ((t 0).kind : Int)) at h
        rw [h0] at h
        exact h
      obtain ⟨w3, hw3⟩ : ∃ w3 : World, w3 = wr := ⟨_, rfl⟩
      subst hw3
      go_wp2_with fail
      go_loopg [9] k (fun gh i wr => ∃ j : Nat, j ≤ k ∧ k - j ≤ gh ∧ i = .int .i64 j ∧ KF w3 wr)
      case atStart => exact ⟨0, by omega, by omega, rfl, KF.refl _⟩
      case round =>
        obtain ⟨j, hj, hgj, rfl, k3⟩ := hrel
        have kw := KF.trans kr k3
        rcases Nat.lt_or_ge j k with hjl | hjl
        · have hjl' : (j : Int) < (k : Int) := by omega
          obtain ⟨b, o, x, A4, c4, rfl, hx64, hx0, _, n0, n2, _, _, _⟩ := node_at (k := j) HR.out (by rw [← HN.out]; exact hjl) kw
          have hcnt := HG.out.count x
          have cS := (B1.out.keep k3 (fun h => h)).cell hx64
          change wr.cell? _ = some (.int .i64 (allRefs t x : Int)) at cS
          have hx64' : (x : Int) < 64 := by omega
          have hx0' : (0 : Int) ≤ (x : Int) := by omega
          go_wp2_with fail
          rcases Nat.eq_zero_or_pos x with h0 | h0
          · have d1 : decide ((0 : Int) < (x : Int)) = false := decide_eq_false (by omega)
            clear hcnt
            go_quiet (fail)
            go_wp2_with fail
            go_roundg (k - (j + 1))
            case measure => omega
            case rel => exact ⟨j + 1, by omega, by omega, by go_num, k3.drewN _⟩
          · have d1 : decide ((0 : Int) < (x : Int)) = true := decide_eq_true (by omega)
            rw [(hcnt (by omega) hx0).1] at cS
            clear hcnt
            generalize (t x).links = lk at *
            go_quiet (fail)
            go_wp2_with fail
            go_roundg (k - (j + 1))
            case measure => omega
            case rel => exact ⟨j + 1, by omega, by omega, by go_num, k3.drewN _⟩
        · obtain rfl : j = k := by omega
          have hjl' : ¬ (j : Int) < (j : Int) := by omega
          go_wp2_with fail
          go_loopg [10] 64 (fun gh i wx => ∃ m : Nat, m ≤ 64 ∧ 64 - m ≤ gh ∧ i = .int .i64 m ∧ wx = wr)
          case atStart => exact ⟨0, by omega, by omega, rfl, rfl⟩
          case round =>
            obtain ⟨m, hm, hgm, rfl, rfl⟩ := hrel
            rcases Nat.lt_or_ge m 64 with hml | hml
            · have hml' : (m : Int) < 64 := by omega
              have cS := (B1.out.keep k3 (fun h => h)).cell hml
              have cK := (B2.out.keep k3 (fun h => h)).cell hml
              have hsk := fun h => seen_kind HG.out (m := m) h
              change wr.cell? _ = some (.int .i64 (allRefs t m : Int)) at cS
              change wr.cell? _ = some (.int .i64 ((t m).kind : Int)) at cK
              by_cases h0 : 0 < allRefs t m
              · have d1 : (0 : Int) < (allRefs t m : Int) := by omega
                have hk0 := hsk h0
                have d2 : (((t m).kind : Int) == 0) = false := beq_eq_false_iff_ne.2 (by omega)
                clear hsk
                generalize allRefs t m = sv at *
                generalize (t m).kind = kv at *
                go_wp2_with fail
                go_roundg (64 - (m + 1))
                case measure => omega
                case rel => exact ⟨m + 1, by omega, by omega, by go_num, rfl⟩
              · have d1 : ¬ (0 : Int) < (allRefs t m : Int) := by omega
                clear hsk
                generalize allRefs t m = sv at *
                go_wp2_with fail
                go_roundg (64 - (m + 1))
                case measure => omega
                case rel => exact ⟨m + 1, by omega, by omega, by go_num, rfl⟩
            · obtain rfl : m = 64 := by omega
              clear B1 B2 c20 k3 kr
              go_wp2_with fail
              rw [show zB.setIfInBounds 0 (Value.bool true) = arr (bF rootS) by unfold zB; rw [arr_set, bF_upN]; rfl]
              obtain ⟨w4, hw4⟩ : ∃ w4, wr.alloc (.cells (arr (bF rootS)) 75) = w4 := ⟨_, rfl⟩
              have a3 : Arr w4 wr.heap.size 75 (bF rootS) := by rw [← hw4]; exact heap_alloc_new wr _
              have k4 : KF w w4 := by rw [← hw4]; exact Keep.alloc kw _
              have hg3 := kw.size
              rw [hw4]
              generalize wr.heap.size = g3 at *
              have A3 := Lib.hid a3
              clear hw4 a3 kw
              go_loopg [12] j (fun gh i wr => ∃ p : Nat, p ≤ j ∧ j - p ≤ gh ∧ i = .int .i64 p ∧ KF w wr ∧ Hid (Arr wr g3 75 (bF (sweeps t (having t) rootS p))))
              case atStart => exact ⟨0, by omega, by omega, rfl, k4, A3⟩
              case round =>
                obtain ⟨p, hp, hgp, rfl, k5, E⟩ := hrel
                rcases Nat.lt_or_ge p j with hpl | hpl
                · have hpl' : (p : Int) < (j : Int) := by omega
                  have HSW := Lib.hid (sweeps_succ t (having t) rootS p)
                  generalize sweeps t (having t) rootS p = S0 at *
                  obtain ⟨w5, hw5⟩ : ∃ w5 : World, w5 = wr := ⟨_, rfl⟩
                  subst hw5
                  go_wp2_with fail
                  go_loopg [13] j (fun gh i wr => ∃ q : Nat, q ≤ j ∧ j - q ≤ gh ∧ i = .int .i64 q ∧ KF w wr ∧ Hid (Arr wr g3 75 (bF (sweep t ((having t).take q) S0))))
                  case atStart => exact ⟨0, by omega, by omega, rfl, k5, E⟩
                  case round =>
                    obtain ⟨q, hq, hgq, rfl, k6, E6⟩ := hrel
                    rcases Nat.lt_or_ge q j with hql | hql
                    · have hql' : (q : Int) < (j : Int) := by omega
                      obtain ⟨w6, hw6⟩ : ∃ w6 : World, w6 = wr := ⟨_, rfl⟩
                      subst hw6
                      obtain ⟨b, o, x, A4, c4, rfl, hx64, hx0, htk, n0, _, n4, hents, hbb⟩ := node_at (k := q) HR.out (by rw [← HN.out]; exact hql) (KF.refl w)
                      have HTK := Lib.hid htk
                      have HSS := Lib.hid (sweep_snoc t ((having t).take q) x S0)
                      rw [← htk] at HSS
                      have T := Lib.hid hents
                      have hx64' : (x : Int) < 64 := by omega
                      clear htk hents
                      generalize sweep t ((having t).take q) S0 = S1 at *
                      have hle6 := HSM.out x
                      generalize hle : (t x).entries.length = le at *
                      have HLE := Lib.hid hle
                      clear hle
                      go_wp2_with fail
                      go_loopg [14] le (fun gh i wr => ∃ r : Nat, r ≤ le ∧ le - r ≤ gh ∧ i = .int .i64 r ∧ KF w wr ∧ Hid (Arr wr g3 75 (bF (markJ S1 x ((t x).entries.take r)))))
                      case atStart => exact ⟨0, by omega, by omega, rfl, k6, Lib.hid (by rw [List.take_zero, markJ_nil]; exact E6.out)⟩
                      case round =>
                        obtain ⟨r, hr, hgr, rfl, k7, E7⟩ := hrel
                        have y0 := (k7.cell (p := ⟨b, o + q * 5, none⟩) hbb).trans n0
                        have y4 := (k7.cell (p := ⟨b, o + q * 5 + 4, none⟩) hbb).trans n4
                        rcases Nat.lt_or_ge r le with hrl | hrl
                        · have hrl' : (r : Int) < (le : Int) := by omega
                          have q2 : r < (t x).entries.length := by rw [HLE.out]; exact hrl
                          obtain ⟨b2, o2, rfl, hb2, _, m2⟩ := T.out.at_ q2
                          have hen := HG.out.entry x _ (List.getElem_mem q2)
                          have hnd64 := HG.out.lt hen.2.2
                          have HTJ := Lib.hid (show (t x).entries.take (r + 1) = (t x).entries.take r ++ [(t x).entries[r]] from List.take_succ_eq_append_getElem q2)
                          clear hen
                          generalize (t x).entries[r] = en at *
                          have HY := Lib.hid (fun h => markJ_yes (S := S1) (n := x) h ((t x).entries.take r) en)
                          have HNO := Lib.hid (fun h => markJ_no (S := S1) (n := x) h ((t x).entries.take r) en)
                          have y2 := (k7.cell (p := ⟨b2, o2 + r * 2 + 1, none⟩) hb2).trans m2
                          have cE := E7.out.cell hx64
                          change World.cell? _ _ = some (.bool (markJ S1 x _ x)) at cE
                          rw [markJ_at] at cE
                          have r1 := E7.out.free en.2
                          have r2 := E7.out.cell hnd64
                          have GS := Lib.hid (E7.out.set en.2 (.bool true))
                          have kS := k7.setCell (p := ⟨g3, en.2, none⟩) (.inl hg3) (.bool true)
                          generalize en.2 = nd at *
                          have hnd64' : (nd : Int) < 64 := by omega
                          cases hS : S1 x
                          · rw [hS] at cE
                            have HNO2 := Lib.hid (HNO.out hS)
                            clear hS HY HNO GS kS r1 r2
                            go_wp2_with fail
                            go_roundg (le - (r + 1))
                            case measure => omega
                            case rel => exact ⟨r + 1, by omega, by omega, by go_num, k7, Lib.hid (by rw [HTJ.out, HNO2.out]; exact E7.out)⟩
                          · rw [hS] at cE
                            have HY2 := Lib.hid (HY.out hS)
                            clear hS HY HNO
                            go_wp2_with fail
                            go_roundg (le - (r + 1))
                            case measure => omega
                            case rel => exact ⟨r + 1, by omega, by omega, by go_num, kS, Lib.hid (by rw [HTJ.out, HY2.out, ← bF_upN]; exact GS.out)⟩
                        · obtain rfl : r = le := by omega
                          have hrl' : ¬ (r : Int) < (r : Int) := by omega
                          have e1 : (t x).entries.take r = (t x).entries := List.take_of_length_le (by rw [HLE.out]; exact Nat.le_refl _)
                          rw [e1] at E7
                          clear e1
                          go_wp2_with fail
                          go_roundg (j - (q + 1))
                          case measure => omega
                          case rel => exact ⟨q + 1, by omega, by omega, by go_num, k7, Lib.hid (by rw [HSS.out]; exact E7.out)⟩
                    · obtain rfl : q = j := by omega
                      have hql' : ¬ (q : Int) < (q : Int) := by omega
                      have e1 : (having t).take q = having t := List.take_of_length_le (by rw [← HN.out]; exact Nat.le_refl _)
                      rw [e1] at E6
                      clear e1
                      go_wp2_with fail
                      go_roundg (q - (p + 1))
                      case measure => omega
                      case rel => exact ⟨p + 1, by omega, by omega, by go_num, k6, Lib.hid (by rw [HSW.out]; exact E6.out)⟩
                · obtain rfl : p = j := by omega
                  have hpl' : ¬ (p : Int) < (p : Int) := by omega
                  have HAR := Lib.hid fun m (hm : (t m).kind ≠ 0) => all_reached HG.out hm
                  rw [← HN.out] at HAR
                  generalize sweeps t (having t) rootS p = S0 at *
                  obtain ⟨w5, hw5⟩ : ∃ w5 : World, w5 = wr := ⟨_, rfl⟩
                  subst hw5
                  go_wp2_with fail
                  go_loopg [15] p (fun gh i wr => ∃ q : Nat, q ≤ p ∧ p - q ≤ gh ∧ i = .int .i64 q ∧ wr = w5)
                  case atStart => exact ⟨0, by omega, by omega, rfl, rfl⟩
                  case round =>
                    obtain ⟨q, hq, hgq, rfl, rfl⟩ := hrel
                    rcases Nat.lt_or_ge q p with hql | hql
                    · have hql' : (q : Int) < (p : Int) := by omega
                      obtain ⟨b, o, x, A4, c4, rfl, hx64, hx0, _, n0, _, _, _, _⟩ := node_at (k := q) HR.out (by rw [← HN.out]; exact hql) k5
                      have cE := E.out.cell hx64
                      have hyes := HAR.out x hx0
                      change World.cell? _ _ = some (.bool (S0 x)) at cE
                      rw [hyes] at cE
                      clear hyes
                      have hx64' : (x : Int) < 64 := by omega
                      go_wp2_with fail
                      go_roundg (p - (q + 1))
                      case measure => omega
                      case rel => exact ⟨q + 1, by omega, by omega, by go_num, rfl⟩
                    · obtain rfl : q = p := by omega
                      have hql' : ¬ (q : Int) < (q : Int) := by omega
                      go_wp2_with fail
                      go_ret
                      exact ⟨rfl, k5⟩
theorem rights : Rights := fun u A c wx g hsm hr => by
  have hlen : (nodesOf u).length = (having u).length := by unfold nodesOf; rw [List.length_map]
  refine right_any u A (nodesOf u).length c wx g hlen (fun m => ?_) hr
  by_cases h : (u m).kind = 0
  · rw [g.void m h]; exact Nat.zero_le _
  · exact (hsm (nodeV u m) (List.mem_map.2 ⟨m, having_mem.2 ⟨g.lt h, h⟩, rfl⟩)).2
end Go.Proofs.YtlpjbgplimlcaaaGreatDoor
