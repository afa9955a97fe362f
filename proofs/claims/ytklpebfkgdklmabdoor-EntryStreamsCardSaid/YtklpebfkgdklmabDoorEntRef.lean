/-
  WALKS of the document's own answers for entries: Bytes, Right, Same.
-/
import Derived.Test.YtklpebfkgdklmabDoorRefPut
import Derived.Test.YtklpebfkgdklmabDoorRef
import Derived.Test.YtklpebfkgdklmabDoorEnt
namespace Go.Proofs.YtklpebfkgdklmabDoor
open Go.RowKit

set_option maxRecDepth 100000 in
set_option maxHeartbeats 1000000 in
theorem ebytes_any (x : TLog) (A : Option Addr) (d c : Nat) (w : World) (hd : x.pay.length ≤ 1000000) (hdl : d = x.pay.length) (hr : Rd w w.heap.size A x.pay) :
    Calls Tryd.prog 16 #[.agg (ecells x A d c)] w (FreshE w (wrapB (encE x))) := by
  obtain ⟨w1, hw1⟩ : ∃ w1, w.alloc (.cells (ecells x A d c) 26) = w1 := ⟨_, rfl⟩
  obtain ⟨g0, hg0⟩ : ∃ g0, w.heap.size = g0 := ⟨_, rfl⟩
  have s1 : w1.heap.size = w.heap.size + 1 := by rw [← hw1]; simp
  have P : Lg w1 g0 (.int .i64 x.kind) (.int .i64 x.client) (.int .i64 x.birth) (.int .i64 x.number) (.int .i64 x.stream) (.int .i64 x.back) (.slice A d c) := ⟨by rw [← hw1, ← hg0]; exact heap_alloc_new w _⟩
  have k01 : KF w w1 := by rw [← hw1]; exact (KF.refl _).alloc _
  have CELL := Lib.hid fun W (k : KF w1 W) => (P.kept k (fun h => h)).cells
  have RD := Lib.hid fun W (k : KF w1 W) => show Rd W w1.heap.size A x.pay from ((hr.keepF k01 (Nat.le_refl _)).more k01.size).keepF k (Nat.le_refl _)
  have hk8 : IntKind.u8.wrap x.kind = ((b8 x.kind).toNat : Int) := by rw [IntKind.wrap_u8, b8_toNat]; omega
  have hs8 : IntKind.u8.wrap x.stream = ((b8 x.stream).toNat : Int) := by rw [IntKind.wrap_u8, b8_toNat]; omega
  have hc8 : IntKind.u64.wrap x.client = (u64 x.client : Int) := by rw [IntKind.wrap_u64]; unfold u64; omega
  have hb8 : IntKind.u64.wrap x.birth = (u64 x.birth : Int) := by rw [IntKind.wrap_u64]; unfold u64; omega
  have hn8 : IntKind.u64.wrap x.number = (u64 x.number : Int) := by rw [IntKind.wrap_u64]; unfold u64; omega
  have HW1 := Lib.hid hw1
  have HG0 := Lib.hid hg0
  have HDL := Lib.hid hdl
  clear hw1 hg0 s1 hdl hr P
  go_enter Tryd.func16, Tryd.ntmps16
  go_upto_region 1 with fail
  rw [HW1.out, HG0.out]
  clear HW1 HG0
  obtain ⟨p0, p1, p2, p3, p4, p5, p6⟩ := CELL.out w1 (KF.refl _)
  have G1 := Gr.lit w1 (b8 x.kind)
  obtain ⟨w2, hw2⟩ : ∃ w2, w1.alloc (.cells #[.int .u8 (b8 x.kind).toNat] 5) = w2 := ⟨_, rfl⟩
  rw [hw2] at G1
  have HW2 := Lib.hid hw2
  clear hw2
  go_upto_region 2 with fail
  rw [HW2.out]
  clear p0 p1 p2 p3 p4 p5 p6 HW2 hk8
  obtain ⟨p0, p1, p2, p3, p4, p5, p6⟩ := CELL.out w2 G1.keep
  have C1 := Lib.hid (gput4 (l := [b8 x.kind]) G1 x.client (by simp))
  rw [show [b8 x.kind].length = 1 from rfl] at C1
  go_wp2_with fail
  refine C1.out.mono ?_
  rintro e w3 ⟨A3, c3, rfl, G3⟩
  clear p0 p1 p2 p3 p4 p5 p6 C1 hc8 G1
  obtain ⟨p0, p1, p2, p3, p4, p5, p6⟩ := CELL.out w3 G3.keep
  have C2 := Lib.hid (gput4 G3 x.birth (by simp [be_length]))
  generalize hL : ([b8 x.kind] ++ be (u64 x.client) 4).length = L3 at C2 ⊢
  go_wp2_with fail
  refine C2.out.mono ?_
  rintro e w4 ⟨A4, c4, rfl, G4⟩
  clear p0 p1 p2 p3 p4 p5 p6 C2 hb8 G3 hL
  obtain ⟨p0, p1, p2, p3, p4, p5, p6⟩ := CELL.out w4 G4.keep
  have C3 := Lib.hid (gput4 G4 x.number (by simp [be_length]))
  generalize hL : ([b8 x.kind] ++ be (u64 x.client) 4 ++ be (u64 x.birth) 4).length = L4 at C3 ⊢
  go_wp2_with fail
  refine C3.out.mono ?_
  rintro e w5 ⟨A5, c5, rfl, G5⟩
  clear p0 p1 p2 p3 p4 p5 p6 C3 hn8 G4 hL
  obtain ⟨p0, p1, p2, p3, p4, p5, p6⟩ := CELL.out w5 G5.keep
  have hlen : ([b8 x.kind] ++ be (u64 x.client) 4 ++ be (u64 x.birth) 4 ++ be (u64 x.number) 4).length = 13 := by simp [be_length]
  rw [hlen] at G5 ⊢
  generalize hL5 : [b8 x.kind] ++ be (u64 x.client) 4 ++ be (u64 x.birth) 4 ++ be (u64 x.number) 4 = L5 at *
  have HL5 := Lib.hid hL5
  have HLEN := Lib.hid hlen
  clear hL5 hlen
  have o5 := G5.own.alloc (.cells #[.int .u8 (b8 x.stream).toNat] 5)
  have r5 := Rd.lit w5 5 (0, 0) [b8 x.stream] #[.int .u8 (b8 x.stream).toNat] rfl
  go_wp2_with (at_builtin; refine wpList_append_u8 _ rfl _ _ _ rfl bytesT _ L5 rfl o5 (w5.heap.size + 1) _ _ _ [b8 x.stream] rfl rfl r5 (by rw [HLEN.out]; simp) ?_; intro A6 n6 c6 w6 o6 e6 h6 m6 g6 f6; have G6 := G5.app o6 g6 f6; clear p0 p1 p2 p3 p4 p5 p6; obtain ⟨p0, p1, p2, p3, p4, p5, p6⟩ := CELL.out w6 G6.keep)
  clear hs8 o5 r5 o6 g6 f6 h6 m6 G5
  have C6 := Lib.hid (gint G6 e6.out x.back (by rw [List.length_append, HLEN.out]; simp))
  refine C6.out.mono ?_
  rintro e w7 ⟨A7, c7, rfl, G7⟩
  clear p0 p1 p2 p3 p4 p5 p6 C6 G6 e6
  obtain ⟨p0, p1, p2, p3, p4, p5, p6⟩ := CELL.out w7 G7.keep
  have hl7 : (L5 ++ [b8 x.stream] ++ be (u64 x.back) 8).length = 22 := by simp [be_length, HLEN.out]
  have C7 := Lib.hid (gbytes G7 rfl A c d x.pay HDL.out (by omega) (by rw [hl7]; omega) (RD.out w1 (KF.refl _)))
  rw [hl7] at C7 ⊢
  go_wp2_with fail
  refine C7.out.mono ?_
  rintro e w8 ⟨A8, c8, rfl, G8⟩
  have he : L5 ++ [b8 x.stream] ++ be (u64 x.back) 8 ++ tx x.pay = encE x := by rw [← HL5.out]; rfl
  rw [he] at G8 ⊢
  have hle := encE_length x
  have C8 := Lib.hid (refWrap_any A8 (encE x) (encE x).length c8 w8 rfl (by omega) w8.heap.size G8.own.rd (Nat.le_refl _))
  have kw8 := KF.trans k01 G8.keep
  have hE : encE x ++ be (crc (encE x)) 4 = wrapB (encE x) := rfl
  rw [hE] at C8
  clear p0 p1 p2 p3 p4 p5 p6 C7 G7 G8 he hE hle hl7
  generalize wrapB (encE x) = W at *
  generalize (encE x).length = n8 at *
  go_wp2_with fail
  refine C8.out.mono ?_
  rintro e w9 ⟨n9, hn9, A9, c9, rfl, o9, v9, k9⟩
  subst hn9
  go_wp2_with fail
  go_ret
  exact ⟨_, rfl, A9, c9, rfl, o9, v9.older kw8.size, KF.trans kw8 k9⟩
theorem may_any (z : Int) (w : World) : Calls Tryd.prog 15 #[.int .i64 z] w fun e w' => e = .returned (.bool (cntB z)) ∧ w = w' := by
  have hz : Hid (cntB z = (decide (0 ≤ z) && decide (z ≤ 2147483647))) := Lib.hid rfl
  by_cases h0 : 0 ≤ z
  · have h1 : Hid (cntB z = decide (z ≤ 2147483647)) := Lib.hid (by rw [hz.out]; simp [h0])
    go_enter Tryd.func15, Tryd.ntmps15
    go_wp2_with fail
    go_ret
    exact ⟨by rw [h1.out]; rfl, rfl⟩
  · have h1 : Hid (cntB z = false) := Lib.hid (by rw [hz.out]; simp [h0])
    go_enter Tryd.func15, Tryd.ntmps15
    go_wp2_with fail
    go_ret
    exact ⟨by rw [h1.out]; rfl, rfl⟩
set_option maxRecDepth 100000 in
set_option maxHeartbeats 1000000 in
theorem rright_any (x : TLog) (A : Option Addr) (d c : Nat) (w : World) (hd : x.pay.length ≤ 1000000) (hdl : d = x.pay.length) (hr : Rd w w.heap.size A x.pay) :
    Calls Tryd.prog 6 #[.agg (ecells x A d c)] w fun e w' => e = .returned (.bool (rightB x)) ∧ KF w w' := by
  obtain ⟨w1, hw1⟩ : ∃ w1, w.alloc (.cells (ecells x A d c) 26) = w1 := ⟨_, rfl⟩
  obtain ⟨g0, hg0⟩ : ∃ g0, w.heap.size = g0 := ⟨_, rfl⟩
  have P : Lg w1 g0 (.int .i64 x.kind) (.int .i64 x.client) (.int .i64 x.birth) (.int .i64 x.number) (.int .i64 x.stream) (.int .i64 x.back) (.slice A d c) := ⟨by rw [← hw1, ← hg0]; exact heap_alloc_new w _⟩
  have k01 : KF w w1 := by rw [← hw1]; exact (KF.refl _).alloc _
  obtain ⟨p0, p1, p2, p3, p4, p5, p6⟩ := P.cells
  have CB := Lib.hid (ebytes_any x A d c w1 hd hdl ((hr.keepF k01 (Nat.le_refl _)).more k01.size))
  have HLE : Hid ((wrapB (encE x)).length = d + 30) := Lib.hid (by rw [wrapB_length, encE_length]; omega)
  have HW1 := Lib.hid hw1
  have HG0 := Lib.hid hg0
  have HR : Hid (rightB x = ((((kindB x && idB x) && streamB x) && backB x) && decide ((d : Int) ≤ 65506))) := Lib.hid (by rw [hdl]; rfl)
  have HK : Hid (kindB x = (x.kind == 1 || x.kind == 2)) := Lib.hid rfl
  have HI : Hid (idB x = ((cntB x.client && cntB x.birth) && cntB x.number)) := Lib.hid rfl
  have HS : Hid (streamB x = (decide (0 ≤ x.stream) && decide (x.stream < 8))) := Lib.hid rfl
  have HB : Hid (backB x = (decide (-1 ≤ x.back) && decide (x.back ≤ 4294967296))) := Lib.hid rfl
  generalize rightB x = rb at *
  generalize kindB x = kb at *
  generalize idB x = ib at *
  generalize streamB x = sb at *
  generalize backB x = bb at *
  generalize wrapB (encE x) = W at *
  have C1 := Lib.hid (may_any x.client w1)
  have C2 := Lib.hid (may_any x.birth w1)
  have C3 := Lib.hid (may_any x.number w1)
  have hd6 : d ≤ 1000000 := by omega
  clear hw1 hg0 hd hdl hr P
  generalize cntB x.client = c1 at *
  generalize cntB x.birth = c2 at *
  generalize cntB x.number = c3 at *
  go_enter Tryd.func6, Tryd.ntmps6
  go_upto_region 1 with fail
  rw [HW1.out, HG0.out]
  clear HW1 HG0
  go_cut [31] (fun s wx => s = .bool (!(kb && ib)) ∧ wx = w1)
  case first =>
    have key : Hid ((x.kind != 1 && x.kind != 2) = !kb) := Lib.hid (by rw [HK.out]; simp [bne])
    have side : ∀ v : Bool, (x.kind != 1) = v → True := fun _ _ => trivial
    rcases kb with _ | _
    · have h1 : x.kind ≠ 1 := by have := HK.out; intro h; rw [h] at this; simp at this
      have h2 : x.kind ≠ 2 := by have := HK.out; intro h; rw [h] at this; simp at this
      have z1 : (x.kind != 1) = true := bne_iff_ne.2 h1
      have z2 : (x.kind != 2) = true := bne_iff_ne.2 h2
      clear h1 h2 key HK side
      go_wp2_with fail
      go_meet
      exact ⟨rfl, rfl⟩
    · clear side
      have hk : x.kind = 1 ∨ x.kind = 2 := by have := HK.out; simp at this; omega
      rcases hk with h | h
      · have z1 : (x.kind != 1) = false := by rw [h]; rfl
        clear h key HK
        go_wp2_with fail
        refine C1.out.mono ?_
        rintro e w2 ⟨rfl, rfl⟩
        rcases c1 with _ | _
        · go_wp2_with fail
          go_meet
          exact ⟨by rw [HI.out]; rfl, rfl⟩
        go_wp2_with fail
        refine C2.out.mono ?_
        rintro e w2 ⟨rfl, rfl⟩
        rcases c2 with _ | _
        · go_wp2_with fail
          go_meet
          exact ⟨by rw [HI.out]; rfl, rfl⟩
        go_wp2_with fail
        refine C3.out.mono ?_
        rintro e w2 ⟨rfl, rfl⟩
        rcases c3 with _ | _
        all_goals (go_wp2_with fail)
        all_goals go_meet
        all_goals exact ⟨by rw [HI.out]; rfl, rfl⟩
      · have z1 : (x.kind != 1) = true := by rw [h]; rfl
        have z2 : (x.kind != 2) = false := by rw [h]; rfl
        clear h key HK
        go_wp2_with fail
        refine C1.out.mono ?_
        rintro e w2 ⟨rfl, rfl⟩
        rcases c1 with _ | _
        · go_wp2_with fail
          go_meet
          exact ⟨by rw [HI.out]; rfl, rfl⟩
        go_wp2_with fail
        refine C2.out.mono ?_
        rintro e w2 ⟨rfl, rfl⟩
        rcases c2 with _ | _
        · go_wp2_with fail
          go_meet
          exact ⟨by rw [HI.out]; rfl, rfl⟩
        go_wp2_with fail
        refine C3.out.mono ?_
        rintro e w2 ⟨rfl, rfl⟩
        rcases c3 with _ | _
        all_goals (go_wp2_with fail)
        all_goals go_meet
        all_goals exact ⟨by rw [HI.out]; rfl, rfl⟩
  case rest =>
    obtain ⟨rfl, rfl⟩ := hcut
    clear HK HI C1 C2 C3
    rcases kb with _ | _
    · have H2 : Hid (rb = false) := Lib.hid (by rw [HR.out]; rfl)
      go_wp2_with fail
      go_ret
      exact ⟨by rw [H2.out]; rfl, k01⟩
    rcases ib with _ | _
    · have H2 : Hid (rb = false) := Lib.hid (by rw [HR.out]; rfl)
      go_wp2_with fail
      go_ret
      exact ⟨by rw [H2.out]; rfl, k01⟩
    by_cases h1 : 0 ≤ x.stream
    rotate_left
    · have H2 : Hid (rb = false) := Lib.hid (by rw [HR.out, HS.out]; simp [h1])
      go_wp2_with fail
      go_ret
      exact ⟨by rw [H2.out]; rfl, k01⟩
    by_cases h2 : x.stream ≤ 7
    rotate_left
    · have H2 : Hid (rb = false) := Lib.hid (by rw [HR.out, HS.out]; simp; omega)
      go_wp2_with fail
      go_ret
      exact ⟨by rw [H2.out]; rfl, k01⟩
    have hs : Hid (sb = true) := Lib.hid (by rw [HS.out]; simp; omega)
    by_cases h3 : -1 ≤ x.back
    rotate_left
    · have H2 : Hid (rb = false) := Lib.hid (by rw [HR.out, HB.out]; simp; omega)
      go_wp2_with fail
      go_ret
      exact ⟨by rw [H2.out]; rfl, k01⟩
    by_cases h4 : x.back ≤ 4294967296
    rotate_left
    · have H2 : Hid (rb = false) := Lib.hid (by rw [HR.out, HB.out]; simp; omega)
      go_wp2_with fail
      go_ret
      exact ⟨by rw [H2.out]; rfl, k01⟩
    have H2 : Hid (rb = decide ((d : Int) ≤ 65506)) := Lib.hid (by rw [HR.out, hs.out, HB.out]; simp [h3, h4])
    clear HR HS HB hs
    go_wp2_with fail
    refine CB.out.mono ?_
    rintro e w2 ⟨n2, hn2, A2, c2, rfl, o2, v2, k2⟩
    subst hn2
    rw [HLE.out]
    have H3 : Hid (rb = decide (((d + 30 : Nat) : Int) ≤ 65536)) := Lib.hid (by rw [H2.out]; rw [Bool.eq_iff_iff, decide_eq_true_eq, decide_eq_true_eq]; omega)
    clear CB H2
    generalize d + 30 = d30 at *
    go_wp2_with fail
    go_ret
    exact ⟨by rw [H3.out]; rfl, KF.trans k01 k2⟩
set_option maxRecDepth 100000 in
set_option maxHeartbeats 1000000 in
theorem esame_any (x y : TLog) (A B : Option Addr) (d c d1 c1 : Nat) (w : World) (hd : d = x.pay.length) (hd1 : d1 = y.pay.length) (hx : d ≤ 1000000000) (r1 : Rd w w.heap.size A x.pay) (r2 : Rd w w.heap.size B y.pay) :
    Calls Tryd.prog 9 #[.agg (ecells x A d c), .agg (ecells y B d1 c1)] w fun e w' => e = .returned (.bool (sameE x y)) ∧ KF w w' := by
  obtain ⟨w1, hw1⟩ : ∃ w1, w.alloc (.cells (ecells x A d c) 26) = w1 := ⟨_, rfl⟩
  obtain ⟨w2, hw2⟩ : ∃ w2, w1.alloc (.cells (ecells y B d1 c1) 26) = w2 := ⟨_, rfl⟩
  obtain ⟨g0, hg0⟩ : ∃ g0, w.heap.size = g0 := ⟨_, rfl⟩
  obtain ⟨g1, hg1⟩ : ∃ g1, w1.heap.size = g1 := ⟨_, rfl⟩
  have k01 : KF w w1 := by rw [← hw1]; exact (KF.refl _).alloc _
  have k12 : KF w1 w2 := by rw [← hw2]; exact (KF.refl _).alloc _
  have P0 : Lg w1 g0 (.int .i64 x.kind) (.int .i64 x.client) (.int .i64 x.birth) (.int .i64 x.number) (.int .i64 x.stream) (.int .i64 x.back) (.slice A d c) := ⟨by rw [← hw1, ← hg0]; exact heap_alloc_new w _⟩
  have P1 : Lg w2 g1 (.int .i64 y.kind) (.int .i64 y.client) (.int .i64 y.birth) (.int .i64 y.number) (.int .i64 y.stream) (.int .i64 y.back) (.slice B d1 c1) := ⟨by rw [← hw2, ← hg1]; exact heap_alloc_new w1 _⟩
  obtain ⟨p0, p1, p2, p3, p4, p5, p6⟩ := (P0.kept k12 (fun h => h)).cells
  obtain ⟨q0, q1, q2, q3, q4, q5, q6⟩ := P1.cells
  have k02 := KF.trans k01 k12
  have SB := Lib.hid (same_any A B x.pay y.pay d d1 c c1 w2 hd hd1 (by omega) w.heap.size w.heap.size (r1.keepF k02 (Nat.le_refl _)) (r2.keepF k02 (Nat.le_refl _)))
  have HW1 := Lib.hid hw1
  have HW2 := Lib.hid hw2
  have HG0 := Lib.hid hg0
  have HS : Hid (sameE x y = ((((x.kind == y.kind && (x.client == y.client && (x.birth == y.birth && x.number == y.number))) && x.stream == y.stream) && x.back == y.back) && decide (x.pay = y.pay))) := Lib.hid rfl
  generalize sameE x y = sv at *
  have hg1' : g1 = g0 + 1 := by rw [← hg1, ← hg0, ← hw1]; simp
  subst hg1'
  clear k01 k12 hw1 hw2 hg0 hg1 P0 P1 hd hd1 r1 r2
  generalize decide (x.pay = y.pay) = dv at *
  go_enter Tryd.func9, Tryd.ntmps9
  go_upto_region 1 with fail
  rw [HW1.out, HW2.out, HG0.out]
  clear HW1 HW2 HG0
  go_wp2_with fail
  all_goals first
    | (refine SB.out.mono ?_
       rintro e w3 ⟨rfl, n, rfl⟩
       have H2 : Hid (sv = dv) := Lib.hid (by rw [HS.out]; simp [*])
       go_wp2_with fail
       go_ret
       exact ⟨by rw [H2.out]; rfl, Keep.drewN k02 n⟩)
    | (have H2 : Hid (sv = false) := Lib.hid (by rw [HS.out]; simp [*])
       go_ret
       exact ⟨by rw [H2.out]; rfl, k02⟩)
end Go.Proofs.YtklpebfkgdklmabDoor
