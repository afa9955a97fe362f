/-
  CallCodes, walked.
-/
import Derived.Test.YtklpebfkgdklmaaDoorGreat5
import Derived.Test.YtklpebfkgdklmaaDoorRefEnc
import Derived.Test.YtklpebfkgdklmaaDoorRefStream
import Derived.Test.YtklpebfkgdklmaaDoorDecAMath
import Derived.Test.YtklpebfkgdklmaaDoorOnes
import Derived.Test.YtklpebfkgdklmaaDoorSameA
import Derived.Deep.RegionHeld3
namespace Go.Proofs.YtklpebfkgdklmaaDoor
open Go.RowKit

/-- The ints of a call are Go's. -/
def IntsC (x : TCall) : Prop := I64 x.off ∧ I64 x.n
def smallK (a : IAns) (k : Nat) : Bool := (decide ((a.data.length : Int) ≤ 4096) && decide ((a.names.length : Int) ≤ 64)) && (a.names.take k).all fun p => decide ((p.length : Int) ≤ 300)
theorem smallK_all {a : IAns} (h : smallK a a.names.length = true) (hi : IntsA a) : AnsSm a := by
  unfold smallK at h
  rw [List.take_length] at h
  simp only [Bool.and_eq_true, decide_eq_true_eq, List.all_eq_true] at h
  exact ⟨hi, by omega, by omega, fun p hp => by have := h.2 p hp; omega⟩
abbrev acells (a : IAns) (A C : Option Addr) (d c n c' : Nat) : Array Value := #[.int .i64 a.err, .int .i64 a.kind, .int .i64 a.size, .int .i64 a.links, .slice A d c, .slice C n c']
set_option maxRecDepth 100000 in
set_option maxHeartbeats 8000000 in
theorem codes_walk (x : TCall) (a : IAns) (A B C : Option Addr) (da ca db cb nb cn : Nat) (w : World) (ht : Tab w) (he : Env w) (hx : IntsC x) (ha : IntsA a) (hda : da = x.data.length) (hdb : db = a.data.length) (hnb : nb = a.names.length) (r1 : Rd w w.heap.size A x.data) (r2 : Rd w w.heap.size B a.data) (r3 : Strs w w.heap.size C (a.names.map ba)) :
    Calls Tryd.prog 3 #[cval x A da ca, .agg (acells a B C db cb nb cn)] w fun e w' => e = .returned (.bool true) ∧ KF w w' := by
  obtain ⟨w1, hw1⟩ : ∃ w1, w.alloc (.cells #[.int .i64 x.kind, .string (ba x.path), .string (ba x.other), .int .i64 x.off, .int .i64 x.n, .slice A da ca] 24) = w1 := ⟨_, rfl⟩
  obtain ⟨w2, hw2⟩ : ∃ w2, w1.alloc (.cells (acells a B C db cb nb cn) 28) = w2 := ⟨_, rfl⟩
  obtain ⟨g0, hg0⟩ : ∃ g0, w.heap.size = g0 := ⟨_, rfl⟩
  obtain ⟨g1, hg1⟩ : ∃ g1, w1.heap.size = g1 := ⟨_, rfl⟩
  have k01 : KF w w1 := by rw [← hw1]; exact (KF.refl _).alloc _
  have k12 : KF w1 w2 := by rw [← hw2]; exact (KF.refl _).alloc _
  have b1 : w1.heap[g0]? = some (.cells #[.int .i64 x.kind, .string (ba x.path), .string (ba x.other), .int .i64 x.off, .int .i64 x.n, .slice A da ca] 24) := by rw [← hw1, ← hg0]; exact heap_alloc_new w _
  have b2 : w2.heap[g1]? = some (.cells (acells a B C db cb nb cn) 28) := by rw [← hw2, ← hg1]; exact heap_alloc_new w1 _
  have b12 := (k12.block g0 (lt_of_block b1) (fun h => h)).trans b1
  have k02 := KF.trans k01 k12
  have CELL := Lib.hid fun W (k : KF w2 W) => And.intro (six_cells ((k.block g0 (lt_of_block b12) (fun h => h)).trans b12)) (six_cells ((k.block g1 (lt_of_block b2) (fun h => h)).trans b2))
  have HSP := Lib.hid (speaks5 w2 (ht.kept k02 (fun h => h)) (he.kept k02))
  have HT := Lib.hid fun W (k : KF w2 W) => ht.kept (KF.trans k02 k) (fun h => h)
  have HV := Lib.hid fun W (k : KF w2 W) => he.kept (KF.trans k02 k)
  have HR1 := Lib.hid fun W (k : KF w2 W) => (r1.keepF (KF.trans k02 k) (Nat.le_refl _)).more (KF.trans k02 k).size
  have HR2 := Lib.hid fun W (k : KF w2 W) => (r2.keepF (KF.trans k02 k) (Nat.le_refl _)).more (KF.trans k02 k).size
  have HR3 := Lib.hid fun W (k : KF w2 W) => r3.kept (KF.trans k02 k)
  have GA := Lib.hid fun W (k : KF w2 W) => great5 x A B C none da ca db cb nb cn 0 0 a.err a.kind a.size a.links a.names W hnb (HR3.out W k)
  have HW1 := Lib.hid hw1
  have HW2 := Lib.hid hw2
  have HG0 := Lib.hid hg0
  have HDA := Lib.hid hda
  have HDB := Lib.hid hdb
  have HNB := Lib.hid hnb
  have HX := Lib.hid hx
  have HA := Lib.hid ha
  have hg1' : g1 = g0 + 1 := by rw [← hg1, ← hg0, ← hw1]; simp
  subst hg1'
  clear b1 b2 b12 k01 k12 hw1 hw2 hg0 hg1 hda hdb hnb r1 r2 r3 hx ha ht he
  go_enter Tryd.func3, Tryd.ntmps3
  go_upto_region 1 with fail
  rw [HW1.out, HW2.out, HG0.out]
  clear HW1 HW2 HG0
  go_wp2_with fail
  refine HSP.out.mono ?_
  rintro e w3 ⟨rfl, k3⟩
  obtain ⟨⟨p0, p1, p2, p3, p4, p5⟩, q0, q1, q2, q3, q4, q5⟩ := CELL.out _ k3
  have G1 := Lib.hid (GA.out w3 k3)
  clear HSP GA
  go_wp2_with fail
  refine G1.out.mono ?_
  rintro e w4 ⟨v, rfl, k34, hv⟩
  have k4 := KF.trans k3 k34
  rcases v with _ | _
  rotate_left
  · go_wp2_with fail
    go_ret
    exact ⟨rfl, KF.trans k02 k4⟩
  have SA := hv rfl
  have hs1 := SA.out.path
  have hs2 := SA.out.other
  have hs3 := SA.out.data
  have hs4 := SA.out.adata
  have hs5 := SA.out.count
  have hs6 := SA.out.each
  clear hv G1 p0 p1 p2 p3 p4 p5 q0 q1 q2 q3 q4 q5 SA
  have kw4 := KF.trans k02 k4
  have hx6 : ∀ p ∈ a.names, p.length ≤ 1000000 := fun p hp => by have := hs6 p hp; omega
  have EA := Lib.hid fun W (k : KF w4 W) => encode_any x A da ca W (HT.out W (KF.trans k4 k)) (by omega) (by omega) (by have := HDA.out; omega) HDA.out (HR1.out W (KF.trans k4 k))
  have EB := Lib.hid fun W (k : KF w4 W) => encodeA_any a B C cb cn W (HT.out W (KF.trans k4 k)) (by have := HDB.out; omega) (by omega) hx6 (HR2.out W (KF.trans k4 k)) (HR3.out W (KF.trans k4 k))
  have FA := Lib.hid fun W (k : KF w4 W) => refEncode_any x A da ca W (by omega) (by omega) (by have := HDA.out; omega) HDA.out (HR1.out W (KF.trans k4 k))
  have FB := Lib.hid fun W (k : KF w4 W) => refEncodeA_any a B C cb cn W (by have := HDB.out; omega) (by omega) hx6 (HR2.out W (KF.trans k4 k)) (HR3.out W (KF.trans k4 k))
  have TA := Lib.hid fun W (k : KF w4 W) => stream_any x A da ca W (HT.out W (KF.trans k4 k)) (HV.out W (KF.trans k4 k)) (by omega) (by omega)
  have TB := Lib.hid fun W => refStream_any x A da ca W (by omega) (by omega)
  rw [← HDB.out, ← HNB.out] at EB FB
  have HLX := Lib.hid (wrapB_length (encC x))
  have HLY := Lib.hid (wrapB_length (encA a))
  have hlx : (encC x).length ≤ 7000 := by rw [encC_length]; have := HDA.out; omega
  have hly : (encA a).length ≤ 40000 := by
    have h1 := lst_length a.names 400 hs6
    have h2 : (4 + 400) * a.names.length ≤ (4 + 400) * 70 := Nat.mul_le_mul_left _ hs5
    unfold encA
    simp only [List.length_append, tx_length, be_length]
    have := HDB.out
    omega
  have CEL4 := Lib.hid fun W (k : KF w4 W) => CELL.out W (KF.trans k4 k)
  have HT4 := Lib.hid fun W (k : KF w4 W) => HT.out W (KF.trans k4 k)
  have HR14 := Lib.hid fun W (k : KF w4 W) => HR1.out W (KF.trans k4 k)
  have HR24 := Lib.hid fun W (k : KF w4 W) => HR2.out W (KF.trans k4 k)
  have HR34 := Lib.hid fun W (k : KF w4 W) => HR3.out W (KF.trans k4 k)
  have HDX : Hid (0 ≤ x.kind → x.kind < 256 → x.path.length ≤ 300 → x.other.length ≤ 300 → da ≤ 4096 → decC (wrapB (encC x)) = some x) := Lib.hid fun h1 h2 h3 h4 h5 => dec_enc ⟨⟨⟨by omega, by omega⟩, HX.out.1, HX.out.2, by omega, by omega, by have := HDA.out; omega⟩, h3, h4, by have := HDA.out; omega⟩
  have HDY : Hid (AnsSm a → decA (wrapB (encA a)) = some a) := Lib.hid dec_encA
  clear HT HR1 HR2 HR3 HV CELL k02 k3 k34 k4 hx6
  have HS6 := Lib.hid hs6
  clear hs6
  generalize wrapB (encC x) = X at *
  generalize wrapB (encA a) = Y at *
  generalize (encC x).length = lx at *
  generalize (encA a).length = ly at *
  generalize streamM x = sx at *
  go_upto_region 5 with fail
  go_cut [5, 6] (fun s t' wx => ∃ A9 c9 A10 c10, s = .slice A9 (lx + 4) c9 ∧ t' = .slice A10 (ly + 4) c10 ∧ Own 5 wx (.slice A9 (lx + 4) c9) X ∧ Own 5 wx (.slice A10 (ly + 4) c10) Y ∧ KF w4 wx)
  case first =>
    go_region_held3 (fun W => (W.cell? ⟨g0, 0, none⟩ = some (.int .i64 x.kind) ∧ W.cell? ⟨g0, 1, none⟩ = some (.string (ba x.path)) ∧ W.cell? ⟨g0, 2, none⟩ = some (.string (ba x.other)) ∧ W.cell? ⟨g0, 3, none⟩ = some (.int .i64 x.off) ∧ W.cell? ⟨g0, 4, none⟩ = some (.int .i64 x.n) ∧ W.cell? ⟨g0, 5, none⟩ = some (.slice A da ca)) ∧
        W.cell? ⟨g0 + 1, 0, none⟩ = some (.int .i64 a.err) ∧ W.cell? ⟨g0 + 1, 1, none⟩ = some (.int .i64 a.kind) ∧ W.cell? ⟨g0 + 1, 2, none⟩ = some (.int .i64 a.size) ∧ W.cell? ⟨g0 + 1, 3, none⟩ = some (.int .i64 a.links) ∧ W.cell? ⟨g0 + 1, 4, none⟩ = some (.slice B db cb) ∧ W.cell? ⟨g0 + 1, 5, none⟩ = some (.slice C nb cn))
      (first | exact CEL4.out _ (KF.refl _) | exact CEL4.out _ (KF.refl _).drew | exact CEL4.out _ (by assumption))
      (first
        | (go_at_call 9; refine (EA.out _ ?_).mono ?_; (first | exact (KF.refl _).drew | assumption); rintro e wA ⟨A9, c9, rfl, oA, nA, kA⟩; have kA5 : KF w4 wA := KF.trans (by first | exact (KF.refl _).drew | assumption) kA)
        | (go_at_call 10; refine (EB.out _ ?_).mono ?_; (first | exact (KF.refl _).drew | assumption); rintro e wB ⟨A10, c10, rfl, oB, nB, kB⟩; have kB5 : KF w4 wB := KF.trans (by first | exact (KF.refl _).drew | assumption) kB))
    all_goals (go_wp2_with fail)
    all_goals go_meet
    all_goals (first | exact ⟨A9, c9, A10, c10, rfl, rfl, oA.kept kB (fun _ _ h => h), oB, kB5⟩ | exact ⟨A9, c9, A10, c10, rfl, rfl, oA, oB.kept kA (fun _ _ h => h), kA5⟩)
  case rest =>
    obtain ⟨A9, c9, A10, c10, rfl, rfl, oX, oY, kc⟩ := hcut
    obtain ⟨w5, rfl⟩ : ∃ w5, w5 = wc := ⟨_, rfl⟩
    clear EA EB
    obtain ⟨N, hN⟩ : ∃ N, lx + 4 = N := ⟨_, rfl⟩
    obtain ⟨M, hM⟩ : ∃ M, ly + 4 = M := ⟨_, rfl⟩
    rw [hN] at oX HLX ⊢
    rw [hM] at oY HLY ⊢
    have hN7 : N ≤ 7004 := by omega
    have hM7 : M ≤ 40004 := by omega
    clear hN hM
    have kwc := KF.trans kw4 kc
    have CELC := Lib.hid fun W (k : KF w5 W) => CEL4.out W (KF.trans kc k)
    have FAC := Lib.hid fun W (k : KF w5 W) => FA.out W (KF.trans kc k)
    have FBC := Lib.hid fun W (k : KF w5 W) => FB.out W (KF.trans kc k)
    have TAC := Lib.hid fun W (k : KF w5 W) => TA.out W (KF.trans kc k)
    have SX := Lib.hid fun W A' n' c' (k : KF w5 W) (o : Own 5 W (.slice A' n' c') X) => (same_is (c1 := c9) (c2 := c') (w := W) HLX.out.symm o.len (by rw [HLX.out]; omega) (oX.rd.keepF k (Nat.le_refl _)) o.rd).out
    have SY := Lib.hid fun W A' n' c' (k : KF w5 W) (o : Own 5 W (.slice A' n' c') Y) => (same_is (c1 := c10) (c2 := c') (w := W) HLY.out.symm o.len (by rw [HLY.out]; omega) (oY.rd.keepF k (Nat.le_refl _)) o.rd).out
    have HTC := Lib.hid fun W (k : KF w5 W) => HT4.out W (KF.trans kc k)
    have HR1C := Lib.hid fun W (k : KF w5 W) => HR14.out W (KF.trans kc k)
    have HR2C := Lib.hid fun W (k : KF w5 W) => HR24.out W (KF.trans kc k)
    have HR3C := Lib.hid fun W (k : KF w5 W) => HR34.out W (KF.trans kc k)
    clear FA FB TA CEL4 HT4 HR14 HR24 HR34 kc
    go_upto_region 6 with fail
    go_cut [41] (fun s wx => s = .bool false ∧ KF w5 wx)
    case first =>
      go_region_held3 (fun W => (W.cell? ⟨g0, 0, none⟩ = some (.int .i64 x.kind) ∧ W.cell? ⟨g0, 1, none⟩ = some (.string (ba x.path)) ∧ W.cell? ⟨g0, 2, none⟩ = some (.string (ba x.other)) ∧ W.cell? ⟨g0, 3, none⟩ = some (.int .i64 x.off) ∧ W.cell? ⟨g0, 4, none⟩ = some (.int .i64 x.n) ∧ W.cell? ⟨g0, 5, none⟩ = some (.slice A da ca)) ∧ W.cell? ⟨g0 + 1, 0, none⟩ = some (.int .i64 a.err) ∧ W.cell? ⟨g0 + 1, 1, none⟩ = some (.int .i64 a.kind) ∧ W.cell? ⟨g0 + 1, 2, none⟩ = some (.int .i64 a.size) ∧ W.cell? ⟨g0 + 1, 3, none⟩ = some (.int .i64 a.links) ∧ W.cell? ⟨g0 + 1, 4, none⟩ = some (.slice B db cb) ∧ W.cell? ⟨g0 + 1, 5, none⟩ = some (.slice C nb cn))
        (first | exact CELC.out _ (KF.refl _) | exact CELC.out _ (KF.refl _).drew | exact CELC.out _ (by assumption) | exact CELC.out _ (Keep.drew (by assumption)))
        (first
          | (go_at_call 12; refine (FAC.out _ ?_).mono ?_; (first | exact KF.refl _ | exact (KF.refl _).drew | assumption | exact Keep.drew (by assumption)); rintro e wA ⟨nA, hnA, AA, cA, rfl, oA, vA, kA⟩; subst hnA; have kA5 : KF w5 wA := KF.trans (by first | exact KF.refl _ | exact (KF.refl _).drew | assumption | exact Keep.drew (by assumption)) kA)
          | (go_at_call_of 11 (Value.slice A9 N c9); refine (SX.out _ _ _ _ ?_ (by first | exact oA | exact oA.drew | (exact oA.kept (by assumption) (fun _ _ h => h)))).mono ?_; (first | exact KF.refl _ | exact (KF.refl _).drew | assumption | exact Keep.drew (by assumption)); rintro e wB ⟨rfl, nq, hB⟩; have kB5 : KF w5 wB := hB ▸ (Keep.drewN (by first | exact KF.refl _ | exact (KF.refl _).drew | assumption | exact Keep.drew (by assumption)) nq))
          | (go_at_call 13; refine (FBC.out _ ?_).mono ?_; (first | exact KF.refl _ | exact (KF.refl _).drew | assumption | exact Keep.drew (by assumption)); rintro e wC ⟨nC, hnC, AC, cC, rfl, oC, vC, kC⟩; subst hnC; have kC5 : KF w5 wC := KF.trans (by first | exact KF.refl _ | exact (KF.refl _).drew | assumption | exact Keep.drew (by assumption)) kC)
          | (go_at_call_of 11 (Value.slice A10 M c10); refine (SY.out _ _ _ _ ?_ (by first | exact oC | exact oC.drew | (exact oC.kept (by assumption) (fun _ _ h => h)))).mono ?_; (first | exact KF.refl _ | exact (KF.refl _).drew | assumption | exact Keep.drew (by assumption)); rintro e wD ⟨rfl, nq2, hD⟩; have kD5 : KF w5 wD := hD ▸ (Keep.drewN (by first | exact KF.refl _ | exact (KF.refl _).drew | assumption | exact Keep.drew (by assumption)) nq2))
          | (go_at_call 14; refine (TAC.out _ ?_).mono ?_; (first | exact KF.refl _ | exact (KF.refl _).drew | assumption | exact Keep.drew (by assumption)); rintro e wE ⟨rfl, kE⟩; have kE5 : KF w5 wE := KF.trans (by first | exact KF.refl _ | exact (KF.refl _).drew | assumption | exact Keep.drew (by assumption)) kE)
          | (go_at_call 15; refine (TB.out _).mono ?_; rintro e wF ⟨rfl, kF⟩; have kF5 : KF w5 wF := KF.trans (by first | exact KF.refl _ | exact (KF.refl _).drew | assumption | exact Keep.drew (by assumption)) kF))
      all_goals (go_wp2_with fail)
      all_goals go_meet
      all_goals (first | exact ⟨rfl, kF5⟩ | exact ⟨rfl, kE5⟩)
    case rest =>
      obtain ⟨rfl, kd⟩ := hcut
      have oX' := oX.kept kd (fun _ _ h => h)
      have CD : Hid (Calls Tryd.prog 16 #[.slice A9 N c9] wc (Decs X wc)) := by
        obtain ⟨A', c', e, h1, h2, h3, _⟩ := oX'.shape
        injection e with e1 e2 e3
        subst e1 e3
        exact Lib.hid (decode_any _ X N _ _ HLX.out.symm (by rw [← HLX.out]; exact h1) h2 (by rw [HLX.out]; omega) (HTC.out _ kd) h3)
      clear FAC FBC TAC TB SX SY oX oX'
      go_wp2_with fail
      refine CD.out.mono ?_
      intro e w8 hd
      obtain ⟨k8, A8, c8, rfl, r8⟩ := hd.one
      clear hd CD
      obtain ⟨y, hy⟩ : ∃ y, (decC X).getD zC = y := ⟨_, rfl⟩
      obtain ⟨ec, hec⟩ : ∃ ec : Int, (if (decC X).isSome = true then 0 else 3) = ec := ⟨_, rfl⟩
      have HSM : Hid (decC X = some x → y = x ∧ ec = 0) := Lib.hid fun h => by rw [← hy, ← hec, h]; exact ⟨rfl, rfl⟩
      have HYD : y.data.length ≤ 4096 := by rw [← hy]; exact decC_le X
      rw [hy] at r8 ⊢
      rw [hec]
      obtain ⟨dl, hdl⟩ : ∃ dl, y.data.length = dl := ⟨_, rfl⟩
      rw [hdl]
      obtain ⟨w9, hw9⟩ : ∃ w9, w8.alloc (.cells #[.int .i64 y.kind, .string (ba y.path), .string (ba y.other), .int .i64 y.off, .int .i64 y.n, .slice A8 dl c8] 24) = w9 := ⟨_, rfl⟩
      obtain ⟨g8, hg8⟩ : ∃ g8, w8.heap.size = g8 := ⟨_, rfl⟩
      have b9 : w9.heap[g8]? = some (.cells #[.int .i64 y.kind, .string (ba y.path), .string (ba y.other), .int .i64 y.off, .int .i64 y.n, .slice A8 dl c8] 24) := by rw [← hw9, ← hg8]; exact heap_alloc_new w8 _
      have k89 : KF w8 w9 := by rw [← hw9]; exact (KF.refl _).alloc _
      have kc9 := KF.trans kd (KF.trans k8 k89)
      obtain ⟨u0, u1, u2, u3, u4, u5⟩ := six_cells b9
      obtain ⟨⟨p0, p1, p2, p3, p4, p5⟩, q0, q1, q2, q3, q4, q5⟩ := CELC.out w9 kc9
      have SC : Hid (y = x → Calls Tryd.prog 17 #[cval y A8 dl c8, cval x A da ca] w9 fun e w' => e = .returned (.bool true) ∧ KF w9 w') := Lib.hid fun h => by
        have r9 := (r8.keepF k89 (Nat.le_refl _)).more k89.size
        rw [h] at r9 hdl ⊢
        have h1 := sameCall_any x x A8 A c8 ca w9 (by rw [← HDA.out]; omega) (by rw [← HDA.out]; omega) r9 (HR1C.out w9 kc9)
        rw [sameC_self] at h1
        rw [← hdl, HDA.out]
        exact h1
      have HW9 := Lib.hid hw9
      have HG8 := Lib.hid hg8
      have kw9 := KF.trans kwc kc9
      clear hw9 hg8 b9 hy hec r8 hdl k8 k89 kd
      go_upto_region 9 with fail
      rw [HW9.out, HG8.out]
      clear HW9 HG8
      have C9 := Lib.hid fun W (k : KF w9 W) => CELC.out W (KF.trans kc9 k)
      have HT9 := Lib.hid fun W (k : KF w9 W) => HTC.out W (KF.trans kc9 k)
      have HR29 := Lib.hid fun W (k : KF w9 W) => HR2C.out W (KF.trans kc9 k)
      have HR39 := Lib.hid fun W (k : KF w9 W) => HR3C.out W (KF.trans kc9 k)
      have oY9 := Lib.hid fun W (k : KF w9 W) => oY.kept (KF.trans kc9 k) (fun _ _ h => h)
      clear CELC HTC HR1C HR2C HR3C oY kc9
      obtain ⟨w10, rfl⟩ : ∃ w10, w10 = wc := ⟨_, rfl⟩
      have hbs1 := ba_size x.path
      have hbs2 := ba_size x.other
      generalize hpl : x.path.length = lp at *
      generalize hol : x.other.length = lo at *
      have HPL := Lib.hid hpl
      have HOL := Lib.hid hol
      clear hpl hol
      go_cut [82] (fun s wx => s = .bool false ∧ KF w9 wx)
      case first =>
        by_cases h1 : 0 ≤ x.kind
        rotate_left
        · go_wp2_with fail
          go_meet
          exact ⟨rfl, KF.refl _⟩
        by_cases h2 : x.kind < 256
        rotate_left
        · go_wp2_with fail
          go_meet
          exact ⟨rfl, KF.refl _⟩
        by_cases h3 : (lp : Int) ≤ 300
        rotate_left
        · go_wp2_with fail
          go_meet
          exact ⟨rfl, KF.refl _⟩
        by_cases h4 : (lo : Int) ≤ 300
        rotate_left
        · go_wp2_with fail
          go_meet
          exact ⟨rfl, KF.refl _⟩
        by_cases h5 : (da : Int) ≤ 4096
        rotate_left
        · go_wp2_with fail
          go_meet
          exact ⟨rfl, KF.refl _⟩
        obtain ⟨e1, e2⟩ := HSM.out (HDX.out h1 h2 (by omega) (by omega) (by omega))
        have SC2 := Lib.hid (SC.out e1)
        have E2 := Lib.hid e2
        subst e2
        clear SC HSM e1
        go_wp2_with fail
        refine SC2.out.mono ?_
        rintro e w11 ⟨rfl, k11⟩
        go_wp2_with fail
        go_meet
        exact ⟨rfl, k11⟩
      case rest =>
        obtain ⟨rfl, kd⟩ := hcut
        clear SC HSM HDX p0 p1 p2 p3 p4 p5 q0 q1 q2 q3 q4 q5 u0 u1 u2 u3 u4 u5 hbs1 hbs2
        have CD : Hid (Calls Tryd.prog 18 #[.slice A10 M c10] wc (DecsA Y wc)) := by
          obtain ⟨A', c', e, h1, h2, h3, _⟩ := (oY9.out wc kd).shape
          injection e with e1 e2 e3
          subst e1 e3
          exact Lib.hid (decodeA_any _ Y M _ _ HLY.out.symm (by rw [← HLY.out]; exact h1) h2 (by rw [HLY.out]; omega) (HT9.out _ kd) h3)
        clear oY9
        go_wp2_with fail
        refine CD.out.mono ?_
        intro e w11 hd
        obtain ⟨k11, A11, c11, B11, d11, rfl, r11, s11⟩ := hd.one
        clear hd CD
        obtain ⟨z, hz⟩ : ∃ z, (decA Y).getD zA = z := ⟨_, rfl⟩
        obtain ⟨ea, hea⟩ : ∃ ea : Int, (if (decA Y).isSome = true then 0 else 3) = ea := ⟨_, rfl⟩
        have HSM : Hid (decA Y = some a → z = a ∧ ea = 0) := Lib.hid fun h => by rw [← hz, ← hea, h]; exact ⟨rfl, rfl⟩
        rw [hz] at r11 s11 ⊢
        rw [hea]
        unfold ansV
        obtain ⟨dl2, hdl2⟩ : ∃ dl2, z.data.length = dl2 := ⟨_, rfl⟩
        obtain ⟨nl2, hnl2⟩ : ∃ nl2, z.names.length = nl2 := ⟨_, rfl⟩
        rw [hdl2, hnl2]
        obtain ⟨w12, hw12⟩ : ∃ w12, w11.alloc (.cells #[.int .i64 z.err, .int .i64 z.kind, .int .i64 z.size, .int .i64 z.links, .slice A11 dl2 c11, .slice B11 nl2 d11] 28) = w12 := ⟨_, rfl⟩
        obtain ⟨g11, hg11⟩ : ∃ g11, w11.heap.size = g11 := ⟨_, rfl⟩
        have b12 : w12.heap[g11]? = some (.cells #[.int .i64 z.err, .int .i64 z.kind, .int .i64 z.size, .int .i64 z.links, .slice A11 dl2 c11, .slice B11 nl2 d11] 28) := by rw [← hw12, ← hg11]; exact heap_alloc_new w11 _
        have k1112 : KF w11 w12 := by rw [← hw12]; exact (KF.refl _).alloc _
        have k912 := KF.trans kd (KF.trans k11 k1112)
        obtain ⟨u0, u1, u2, u3, u4, u5⟩ := six_cells b12
        obtain ⟨⟨p0, p1, p2, p3, p4, p5⟩, q0, q1, q2, q3, q4, q5⟩ := C9.out w12 k912
        have HS12 := Lib.hid (HR39.out w12 k912)
        have SA : Hid (z = a → Calls Tryd.prog 19 #[.agg #[.int .i64 z.err, .int .i64 z.kind, .int .i64 z.size, .int .i64 z.links, .slice A11 dl2 c11, .slice B11 nl2 d11], .agg (acells a B C db cb nb cn)] w12 fun e w' => e = .returned (.bool true) ∧ KF w12 w') := Lib.hid fun h => by
          have r12 := (r11.keepF k1112 (Nat.le_refl _)).more k1112.size
          have s12 := s11.kept k1112
          rw [h] at r12 s12 hdl2 hnl2 ⊢
          have h1 := sameAnswerI_one a A11 B B11 C c11 cb d11 cn w12 (by rw [← HDB.out]; omega) (by omega) r12 s12 (HR29.out w12 k912) (HR39.out w12 k912)
          unfold ansV at h1
          rw [hdl2, hnl2] at h1
          rw [← hdl2] at h1 ⊢
          rw [← hnl2] at h1 ⊢
          unfold acells
          rw [HDB.out, HNB.out]
          exact h1
        have HW12 := Lib.hid hw12
        have HG11 := Lib.hid hg11
        have kw12 := KF.trans kw9 k912
        clear hw12 hg11 b12 hz hea r11 s11 hdl2 hnl2 k11 k1112 kd C9 HT9 HR29 HR39
        go_upto_region 12 with fail
        rw [HW12.out, HG11.out]
        clear HW12 HG11
        obtain ⟨w13, rfl⟩ : ∃ w13, w13 = wc := ⟨_, rfl⟩
        obtain ⟨sm0, hsm0⟩ : ∃ sm0, (decide ((db : Int) ≤ 4096) && decide ((nb : Int) ≤ 64)) = sm0 := ⟨_, rfl⟩
        have HSM0 := Lib.hid hsm0
        clear hsm0
        go_cut [11] (fun s wx => s = .bool sm0 ∧ wx = w12)
        case first =>
          by_cases h1 : (db : Int) ≤ 4096
          · have H2 : Hid (sm0 = decide ((nb : Int) ≤ 64)) := Lib.hid (by rw [← HSM0.out]; simp [h1])
            go_wp2_with fail
            go_meet
            exact ⟨by rw [H2.out], rfl⟩
          · have H2 : Hid (sm0 = false) := Lib.hid (by rw [← HSM0.out]; simp [h1])
            go_wp2_with fail
            go_meet
            exact ⟨by rw [H2.out], rfl⟩
        case rest =>
          obtain ⟨rfl, rfl⟩ := hcut
          have HK : Hid (∀ k, smallK a k = (sm0 && (a.names.take k).all fun p => decide ((p.length : Int) ≤ 300))) := Lib.hid fun k => by rw [← HSM0.out, HDB.out, HNB.out]; rfl
          go_wp2_with fail
          go_loopg [101, 11] nb (fun gh i s wr => ∃ k : Nat, k ≤ nb ∧ nb - k ≤ gh ∧ i = .int .i64 k ∧ s = .bool (smallK a k) ∧ wr = wc)
          case atStart => exact ⟨0, by omega, by omega, rfl, by rw [HK.out]; simp, rfl⟩
          case round =>
            obtain ⟨k, hk, hgk, rfl, rfl, rfl⟩ := hrel
            rcases Nat.lt_or_ge k nb with hlt | hge
            · have hlt' : (k : Int) < (nb : Int) := by omega
              have q1' : k < a.names.length := by rw [← HNB.out]; exact hlt
              obtain ⟨b, o, rfl, hb, hcell⟩ := HS12.out k (ba a.names[k]) (by rw [List.getElem?_map, List.getElem?_eq_getElem q1']; rfl)
              have hsz := ba_size a.names[k]
              have HTK : Hid (smallK a (k + 1) = (smallK a k && decide ((a.names[k].length : Int) ≤ 300))) := Lib.hid (by rw [HK.out, HK.out, List.take_succ_eq_append_getElem q1', List.all_append, Bool.and_assoc]; simp)
              generalize a.names[k] = nm at *
              generalize nm.length = ln at *
              generalize smallK a k = sk at *
              rcases sk with _ | _
              · have H2 : Hid (smallK a (k + 1) = false) := Lib.hid (by rw [HTK.out]; rfl)
                go_wp2_with fail
                go_roundg (nb - (k + 1))
                case measure => omega
                case rel => exact ⟨k + 1, by omega, by omega, by go_num, by rw [H2.out], rfl⟩
              · have H2 : Hid (smallK a (k + 1) = decide ((ln : Int) ≤ 300)) := Lib.hid (by rw [HTK.out]; rfl)
                go_wp2_with fail
                go_roundg (nb - (k + 1))
                case measure => omega
                case rel => exact ⟨k + 1, by omega, by omega, by go_num, by rw [H2.out], rfl⟩
            · obtain rfl : k = nb := by omega
              have hlt' : ¬ (k : Int) < (k : Int) := by omega
              have HALL : Hid (smallK a k = true → AnsSm a) := Lib.hid fun h => smallK_all (by rw [← HNB.out]; exact h) HA.out
              generalize smallK a k = sk at *
              rcases sk with _ | _
              · go_wp2_with fail
                go_ret
                exact ⟨rfl, kw12⟩
              · obtain ⟨e1, e2⟩ := HSM.out (HDY.out (HALL.out rfl))
                have SA2 := Lib.hid (SA.out e1)
                subst e2
                clear SA HSM e1 HALL HDY
                go_wp2_with fail
                refine SA2.out.mono ?_
                rintro e w14 ⟨rfl, k14⟩
                go_wp2_with fail
                go_ret
                exact ⟨rfl, KF.trans kw12 k14⟩
end Go.Proofs.YtklpebfkgdklmaaDoor
