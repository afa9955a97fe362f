/-
  What the laws of calls as bytes share: speaks, great, SameCall.
-/
import Derived.Test.YtklpebfkgdklmaaDoorDecMath
import Derived.Test.YtklpebfkgdklmaaDoorStream
import Derived.Test.YtklpebfkgdklmaaDoorRef
namespace Go.Proofs.YtklpebfkgdklmaaDoor
open Go.RowKit

def c127 : TCall := ⟨12, [], [], 0, 7, []⟩
theorem c127_ok : CallSm c127 := ⟨⟨by decide, by decide, by decide, by decide, by decide, by decide⟩, by decide, by decide, by decide⟩
theorem path_a : pathM [47, 97] = some [[97]] := by decide
set_option maxRecDepth 100000 in
set_option maxHeartbeats 2000000 in
theorem speaks5 (w : World) (ht : Tab w) (he : Env w) : Calls Tryd.prog 7 #[] w fun e w' => e = .returned (.bool true) ∧ KF w w' := by
  have CE : Hid (Calls Tryd.prog 9 #[.agg #[.int .i64 12, .string ⟨#[]⟩, .string ⟨#[]⟩, .int .i64 0, .int .i64 7, .slice none 0 0]] w (Fresh w ((encC c127).length + 4) (wrapB (encC c127)))) :=
    Lib.hid (encode_any c127 none 0 0 w ht (by decide) (by decide) (by decide) rfl Rd.nil)
  have CS1 : Hid (∀ wx, KF w wx → Calls Tryd.prog 14 #[.agg #[.int .i64 12, .string ⟨#[47, 97]⟩, .string ⟨#[]⟩, .int .i64 0, .int .i64 0, .slice none 0 0]] wx fun e w' => e = .returned (.int .i64 0) ∧ KF wx w') :=
    Lib.hid fun wx k => stream_any ⟨12, [47, 97], [], 0, 0, []⟩ none 0 0 wx (ht.kept k (fun h => h)) (he.kept k) (by decide) (by decide)
  have CS2 : Hid (∀ wx, KF w wx → Calls Tryd.prog 14 #[.agg #[.int .i64 10, .string ⟨#[47, 97]⟩, .string ⟨#[]⟩, .int .i64 0, .int .i64 0, .slice none 0 0]] wx fun e w' => e = .returned (.int .i64 ((1 + crc [97] % 7 : Nat) : Int)) ∧ KF wx w') :=
    Lib.hid fun wx k => by
      have h := stream_any ⟨10, [47, 97], [], 0, 0, []⟩ none 0 0 wx (ht.kept k (fun h => h)) (he.kept k) (by decide) (by decide)
      have e : streamM ⟨10, [47, 97], [], 0, 0, []⟩ = 1 + crc [97] % 7 := by
        unfold streamM
        simp only [first_cons path_a]
        rfl
      rw [e] at h
      exact h
  have hpos : (0 : Int) < ((1 + crc [97] % 7 : Nat) : Int) := by omega
  generalize 1 + crc [97] % 7 = sn at *
  have HX := Lib.hid (dec_enc c127_ok)
  have HLN := Lib.hid (wrapB_length (encC c127))
  have hln : (encC c127).length ≤ 100 := by rw [encC_length]; decide
  have hnb : (encC c127).length + 4 ≤ 104 := by omega
  clear hln
  generalize wrapB (encC c127) = B at *
  generalize (encC c127).length + 4 = nb at *
  go_enter Tryd.func7, Tryd.ntmps7
  go_wp2_with fail
  refine CE.out.mono ?_
  rintro e w1 ⟨A1, c1, rfl, o1, _, k1⟩
  have hsh := o1.shape
  have CD : Hid (Calls Tryd.prog 16 #[.slice A1 nb c1] w1 (Decs B w1)) := by
    obtain ⟨A', c', e, h1, h2, h3, _⟩ := hsh
    have hn := o1.len
    injection e with e1 e2 e3
    subst e1 e3
    exact Lib.hid (decode_any A1 B nb c1 w1 hn (by omega) h2 (by rw [HLN.out]; omega) (ht.kept k1 (fun h => h)) h3)
  clear hsh CE o1
  go_wp2_with fail
  refine CD.out.mono ?_
  rintro e w2 ⟨k2, ⟨x, A3, c3, hx, rfl, r3⟩ | ⟨hx, rfl⟩⟩
  · rw [HX.out] at hx
    injection hx with hx
    subst hx
    have e0 : (Value.agg #[.int .i64 c127.kind, .string (ba c127.path), .string (ba c127.other), .int .i64 c127.off, .int .i64 c127.n, .slice A3 c127.data.length c3]) = .agg #[.int .i64 12, .string ⟨#[]⟩, .string ⟨#[]⟩, .int .i64 0, .int .i64 7, .slice A3 0 c3] := rfl
    rw [e0]
    clear CD e0 r3 HX
    obtain ⟨w3, hw3⟩ : ∃ w3, w2.alloc (.cells #[.int .i64 12, .string ⟨#[]⟩, .string ⟨#[]⟩, .int .i64 0, .int .i64 7, .slice A3 0 c3] 24) = w3 := ⟨_, rfl⟩
    obtain ⟨g0, hg0⟩ : ∃ g0, w2.heap.size = g0 := ⟨_, rfl⟩
    have b3 : w3.heap[g0]? = some (.cells #[.int .i64 12, .string ⟨#[]⟩, .string ⟨#[]⟩, .int .i64 0, .int .i64 7, .slice A3 0 c3] 24) := by rw [← hw3, ← hg0]; exact heap_alloc_new w2 _
    have k23 : KF w2 w3 := by rw [← hw3]; exact (KF.refl _).alloc _
    have k03 := KF.trans (KF.trans k1 k2) k23
    have hl3 := lt_of_block b3
    have HW3 := Lib.hid hw3
    have HG0 := Lib.hid hg0
    have C4 := Lib.hid fun wx (k : KF w3 wx) => (six_cells ((k.block g0 hl3 (fun h => h)).trans b3)).2.2.2.2.1
    clear hw3 hg0 b3 k1 k2 k23 hl3
    have CA := Lib.hid (CS1.out w3 k03)
    go_upto_region 2 with fail
    rw [HW3.out, HG0.out]
    clear HW3 HG0
    go_wp2_with fail
    refine CA.out.mono ?_
    rintro e w4 ⟨rfl, k4⟩
    have CB := Lib.hid (CS2.out w4 (KF.trans k03 k4))
    go_wp2_with fail
    refine CB.out.mono ?_
    rintro e w5 ⟨rfl, k5⟩
    have c4 := C4.out _ (KF.trans k4 k5)
    go_wp2_with fail
    go_ret
    exact ⟨rfl, KF.trans k03 (KF.trans k4 k5)⟩
  · rw [HX.out] at hx
    cases hx

/-- A call's value. -/
abbrev cval (x : TCall) (A : Option Addr) (d c : Nat) : Value := .agg #[.int .i64 x.kind, .string (ba x.path), .string (ba x.other), .int .i64 x.off, .int .i64 x.n, .slice A d c]
set_option maxRecDepth 100000 in
set_option maxHeartbeats 2000000 in
theorem sameCall_any (x y : TCall) (A B : Option Addr) (c c' : Nat) (w : World) (hx : x.data.length ≤ 1000000000) (hy : y.data.length ≤ 1000000000) (r1 : Rd w w.heap.size A x.data) (r2 : Rd w w.heap.size B y.data) :
    Calls Tryd.prog 17 #[cval x A x.data.length c, cval y B y.data.length c'] w fun e w' => e = .returned (.bool (sameC x y)) ∧ KF w w' := by
  obtain ⟨w1, hw1⟩ : ∃ w1, w.alloc (.cells #[.int .i64 x.kind, .string (ba x.path), .string (ba x.other), .int .i64 x.off, .int .i64 x.n, .slice A x.data.length c] 24) = w1 := ⟨_, rfl⟩
  obtain ⟨w2, hw2⟩ : ∃ w2, w1.alloc (.cells #[.int .i64 y.kind, .string (ba y.path), .string (ba y.other), .int .i64 y.off, .int .i64 y.n, .slice B y.data.length c'] 24) = w2 := ⟨_, rfl⟩
  obtain ⟨g0, hg0⟩ : ∃ g0, w.heap.size = g0 := ⟨_, rfl⟩
  obtain ⟨g1, hg1⟩ : ∃ g1, w1.heap.size = g1 := ⟨_, rfl⟩
  have k01 : KF w w1 := by rw [← hw1]; exact (KF.refl _).alloc _
  have k12 : KF w1 w2 := by rw [← hw2]; exact (KF.refl _).alloc _
  have b1 : w1.heap[g0]? = some (.cells #[.int .i64 x.kind, .string (ba x.path), .string (ba x.other), .int .i64 x.off, .int .i64 x.n, .slice A x.data.length c] 24) := by rw [← hw1, ← hg0]; exact heap_alloc_new w _
  have b2 : w2.heap[g1]? = some (.cells #[.int .i64 y.kind, .string (ba y.path), .string (ba y.other), .int .i64 y.off, .int .i64 y.n, .slice B y.data.length c'] 24) := by rw [← hw2, ← hg1]; exact heap_alloc_new w1 _
  obtain ⟨p0, p1, p2, p3, p4, p5⟩ := six_cells ((k12.block g0 (lt_of_block b1) (fun h => h)).trans b1)
  obtain ⟨q0, q1, q2, q3, q4, q5⟩ := six_cells b2
  have k02 := KF.trans k01 k12
  have SB := Lib.hid (same_any A B x.data y.data x.data.length y.data.length c c' w2 rfl rfl (by omega) w.heap.size w.heap.size (r1.keepF k02 (Nat.le_refl _)) (r2.keepF k02 (Nat.le_refl _)))
  have HW1 := Lib.hid hw1
  have HW2 := Lib.hid hw2
  have HG0 := Lib.hid hg0
  have HG1 := Lib.hid hg1
  have HS : Hid (sameC x y = (x.kind == y.kind && x.path == y.path && x.other == y.other && x.off == y.off && x.n == y.n && decide (x.data = y.data))) := Lib.hid rfl
  generalize sameC x y = sv at *
  have hg1' : g1 = g0 + 1 := by rw [← hg1, ← hg0, ← hw1]; simp
  subst hg1'
  clear b1 b2 k01 k12 hw1 hw2 hg0 hg1 HG1
  go_enter Tryd.func17, Tryd.ntmps17
  go_upto_region 1 with fail
  rw [HW1.out, HW2.out, HG0.out]
  clear HW1 HW2 HG0
  cases z0 : (x.kind == y.kind)
  · have HSV : Hid (sv = false) := Lib.hid (by rw [HS.out, z0]; rfl)
    clear HS SB
    go_wp2_with fail
    go_ret
    exact ⟨by rw [HSV.out]; rfl, k02⟩
  · cases z1 : (x.path == y.path)
    · have HSV : Hid (sv = false) := Lib.hid (by rw [HS.out, z0, z1]; rfl)
      clear HS SB
      go_wp2_with fail
      go_ret
      exact ⟨by rw [HSV.out]; rfl, k02⟩
    · cases z2 : (x.other == y.other)
      · have HSV : Hid (sv = false) := Lib.hid (by rw [HS.out, z0, z1, z2]; rfl)
        clear HS SB
        go_wp2_with fail
        go_ret
        exact ⟨by rw [HSV.out]; rfl, k02⟩
      · cases z3 : (x.off == y.off)
        · have HSV : Hid (sv = false) := Lib.hid (by rw [HS.out, z0, z1, z2, z3]; rfl)
          clear HS SB
          go_wp2_with fail
          go_ret
          exact ⟨by rw [HSV.out]; rfl, k02⟩
        · cases z4 : (x.n == y.n)
          · have HSV : Hid (sv = false) := Lib.hid (by rw [HS.out, z0, z1, z2, z3, z4]; rfl)
            clear HS SB
            go_wp2_with fail
            go_ret
            exact ⟨by rw [HSV.out]; rfl, k02⟩
          · have HSV : Hid (sv = decide (x.data = y.data)) := Lib.hid (by rw [HS.out, z0, z1, z2, z3, z4]; rfl)
            clear HS
            go_wp2_with fail
            refine SB.out.mono ?_
            rintro e w3 ⟨rfl, nq, rfl⟩
            go_wp2_with fail
            go_ret
            exact ⟨by rw [HSV.out]; rfl, k02.drewN nq⟩
end Go.Proofs.YtklpebfkgdklmaaDoor
