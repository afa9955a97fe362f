/-
  WALKS: entry.Encode.
-/
import Derived.Test.YtklpebfkgdklmabDoorEnt
namespace Go.Proofs.YtklpebfkgdklmabDoor
open Go.RowKit Go.Shelf

theorem Wn.num4 {a w : World} {g : Nat} {l : List UInt8} (h : Wn a w g l) (z : Int) (hb : l.length ≤ 35184372088832) :
    Calls Tryd.prog 20 #[.pointer (some ⟨g, 0, none⟩), .int .u64 (u64 z : Nat), .int .i64 4] w fun e w' => e = .returned (.tuple #[]) ∧ Wn a w' g (l ++ be (u64 z) 4) :=
  h.call fun v hw _ => by
    have := number_any g v l (u64 z) 4 w hw (u64_lt z) (by omega)
    rw [show sz 4 = 4 by decide] at this
    exact this
set_option maxRecDepth 100000 in
set_option maxHeartbeats 1000000 in
theorem eput_any (x : TLog) (A : Option Addr) (d c B g0 g1 : Nat) (w2 : World) (hd : x.pay.length ≤ 1000000) (hdl : d = x.pay.length)
    (hb : Lg w2 g0 (.int .i64 x.kind) (.int .i64 x.client) (.int .i64 x.birth) (.int .i64 x.number) (.int .i64 x.stream) (.int .i64 x.back) (.slice A d c)) (h01 : g0 < g1) (hg1 : g1 < w2.heap.size) (hr : Rd w2 B A x.pay) (hB : B ≤ g1) (W2 : Wn w2 w2 g1 []) :
    Calls Tryd.prog 18 #[.pointer (some ⟨g1, 0, none⟩), .pointer (some ⟨g0, 0, none⟩)] w2 fun e w' => e = .returned (.tuple #[]) ∧ Wn w2 w' g1 (encE x) := by
  have CELL := Lib.hid fun wx l (h : Wn w2 wx g1 l) => (hb.kept h.keep (fun e => by omega)).cells
  have RD := Lib.hid fun wx l (h : Wn w2 wx g1 l) => show Rd wx B A x.pay from hr.below (h.keep.below (B := B) (by omega) (fun i hi he => by omega))
  have hk8 : IntKind.u8.wrap x.kind = ((b8 x.kind).toNat : Int) := by rw [IntKind.wrap_u8, b8_toNat]; omega
  have hs8 : IntKind.u8.wrap x.stream = ((b8 x.stream).toNat : Int) := by rw [IntKind.wrap_u8, b8_toNat]; omega
  have hc8 : IntKind.u64.wrap x.client = (u64 x.client : Int) := by rw [IntKind.wrap_u64]; unfold u64; omega
  have hb8 : IntKind.u64.wrap x.birth = (u64 x.birth : Int) := by rw [IntKind.wrap_u64]; unfold u64; omega
  have hn8 : IntKind.u64.wrap x.number = (u64 x.number : Int) := by rw [IntKind.wrap_u64]; unfold u64; omega
  have HDL := Lib.hid hdl
  have hB2 := Lib.hid (show B ≤ w2.heap.size by omega)
  clear hdl hb hr
  go_enter Tryd.func18, Tryd.ntmps18
  obtain ⟨c0, c1, c2, c3, c4, c5, c6⟩ := CELL.out _ _ W2
  have C0 := Lib.hid (W2.byte (b8 x.kind) (by simp))
  go_wp2_with fail
  refine C0.out.mono ?_
  rintro e w3 ⟨rfl, W3⟩
  clear c0 c1 c2 c3 c4 c5 c6 C0 hk8
  obtain ⟨c0, c1, c2, c3, c4, c5, c6⟩ := CELL.out _ _ W3
  have C1 := Lib.hid (W3.num4 x.client (by simp))
  go_wp2_with fail
  refine C1.out.mono ?_
  rintro e w4 ⟨rfl, W4⟩
  clear c0 c1 c2 c3 c4 c5 c6 C1 hc8
  obtain ⟨c0, c1, c2, c3, c4, c5, c6⟩ := CELL.out _ _ W4
  have C2 := Lib.hid (W4.num4 x.birth (by simp [be_length]))
  go_wp2_with fail
  refine C2.out.mono ?_
  rintro e w5 ⟨rfl, W5⟩
  clear c0 c1 c2 c3 c4 c5 c6 C2 hb8
  obtain ⟨c0, c1, c2, c3, c4, c5, c6⟩ := CELL.out _ _ W5
  have C3 := Lib.hid (W5.num4 x.number (by simp [be_length]))
  go_wp2_with fail
  refine C3.out.mono ?_
  rintro e w6 ⟨rfl, W6⟩
  clear c0 c1 c2 c3 c4 c5 c6 C3 hn8
  obtain ⟨c0, c1, c2, c3, c4, c5, c6⟩ := CELL.out _ _ W6
  have C4 := Lib.hid (W6.byte (b8 x.stream) (by simp [be_length]))
  go_wp2_with fail
  refine C4.out.mono ?_
  rintro e w7 ⟨rfl, W7⟩
  clear c0 c1 c2 c3 c4 c5 c6 C4 hs8
  obtain ⟨c0, c1, c2, c3, c4, c5, c6⟩ := CELL.out _ _ W7
  have C5 := Lib.hid (W7.int x.back (by simp [be_length]))
  go_wp2_with fail
  refine C5.out.mono ?_
  rintro e w8 ⟨rfl, W8⟩
  clear c0 c1 c2 c3 c4 c5 c6 C5
  obtain ⟨c0, c1, c2, c3, c4, c5, c6⟩ := CELL.out _ _ W8
  have C6 := Lib.hid (W8.bytes A x.pay c (by omega) (by simp [be_length]) B (RD.out _ _ W8) hB hB2.out)
  rw [← HDL.out] at C6
  go_wp2_with fail
  refine C6.out.mono ?_
  rintro e w9 ⟨rfl, W9⟩
  have hl8 : [] ++ [b8 x.kind] ++ be (u64 x.client) 4 ++ be (u64 x.birth) 4 ++ be (u64 x.number) 4 ++ [b8 x.stream] ++ be (u64 x.back) 8 ++ tx x.pay = encE x := by simp only [encE, List.nil_append]
  rw [hl8] at W9
  clear c0 c1 c2 c3 c4 c5 c6 C6 hl8
  go_wp2
  go_end0
  exact ⟨rfl, W9⟩
/-- What Encode leaves. -/
def EncE (x : TLog) (w : World) (e : Ending) (w' : World) : Prop :=
  KF w w' ∧ ((rightB x = true ∧ ∃ A c, e = .returned (.tuple #[.slice A ((encE x).length + 4) c, .int .i64 0]) ∧ Own 5 w' (.slice A ((encE x).length + 4) c) (wrapB (encE x)) ∧ NB w (.slice A ((encE x).length + 4) c)) ∨ (rightB x = false ∧ e = .returned (.tuple #[.slice none 0 0, .int .i64 1])))
set_option maxRecDepth 100000 in
set_option maxHeartbeats 1000000 in
theorem eencode_any (x : TLog) (A : Option Addr) (d c : Nat) (w : World) (ht : Tab w) (hd : x.pay.length ≤ 1000000) (hdl : d = x.pay.length) (hr : Rd w w.heap.size A x.pay) :
    Calls Tryd.prog 7 #[.agg (ecells x A d c)] w (EncE x w) := by
  obtain ⟨w1, hw1⟩ : ∃ w1, w.alloc (.cells (ecells x A d c) 26) = w1 := ⟨_, rfl⟩
  obtain ⟨g0, hg0⟩ : ∃ g0, w.heap.size = g0 := ⟨_, rfl⟩
  have s1 : w1.heap.size = w.heap.size + 1 := by rw [← hw1]; simp
  have P : Lg w1 g0 (.int .i64 x.kind) (.int .i64 x.client) (.int .i64 x.birth) (.int .i64 x.number) (.int .i64 x.stream) (.int .i64 x.back) (.slice A d c) := ⟨by rw [← hw1, ← hg0]; exact heap_alloc_new w _⟩
  have k01 : KF w w1 := by rw [← hw1]; exact (KF.refl _).alloc _
  obtain ⟨p0, p1, p2, p3, p4, p5, p6⟩ := P.cells
  have hencl := encE_length x
  have C := Lib.hid fun W (k : KF w1 W) => sput_any 18 #[.pointer (some ⟨g0, 0, none⟩)] (encE x) W (enters_of Tryd.func18 (by kernel_rfl) rfl) (by omega) (ht.kept (KF.trans k01 k) (fun h => h))
    fun w2 g k02 hg hlt W2 => eput_any x A d c w.heap.size g0 g w2 hd hdl ((P.kept k (fun h => h)).kept k02 (fun h => h)) (by have := k.size; omega) hlt (((hr.keepF k01 (Nat.le_refl _)).keepF k k01.size).keepF k02 (Nat.le_trans k01.size k.size)) (by have := k.size; omega) W2
  have CR := Lib.hid (right_any x A d c w1 hdl)
  have HW1 := Lib.hid hw1
  have HG0 := Lib.hid hg0
  have HE : Hid (EncE x w = fun e w' => KF w w' ∧ ((rightB x = true ∧ ∃ A c, e = .returned (.tuple #[.slice A ((encE x).length + 4) c, .int .i64 0]) ∧ Own 5 w' (.slice A ((encE x).length + 4) c) (wrapB (encE x)) ∧ NB w (.slice A ((encE x).length + 4) c)) ∨ (rightB x = false ∧ e = .returned (.tuple #[.slice none 0 0, .int .i64 1])))) := Lib.hid rfl
  generalize EncE x w = Q at *
  clear P hw1 hg0 s1 hdl ht hr hencl
  generalize (encE x).length = ll at *
  generalize wrapB (encE x) = L at *
  have hmf : ∀ (fn : Fn) (first cap : Array Value) (w : World), (Instr.makeFunc fn first cap).run Tryd.prog w = .ok (.func fn first cap) w := fun fn first cap w => rfl
  go_enter Tryd.func7, Tryd.ntmps7
  go_upto_region 1 with fail
  rw [HW1.out, HG0.out]
  go_wp2_with fail
  refine CR.out.mono ?_
  rintro e w2 ⟨rfl, k2⟩
  have C2 := Lib.hid (C.out w2 k2)
  clear C CR
  generalize rightB x = rb at *
  rcases rb with _ | _
  · go_wp2_with fail
    rw [HE.out]
    exact ⟨KF.trans k01 k2, .inr ⟨by simp, rfl⟩⟩
  · go_wp2_with fail
    refine C2.out.mono ?_
    rintro e w9 ⟨A9, c9, rfl, o9, n9, k9⟩
    go_wp2_with fail
    rw [HE.out]
    exact ⟨KF.trans (KF.trans k01 k2) k9, .inl ⟨by simp, A9, c9, rfl, o9, n9.older (KF.trans k01 k2).size⟩⟩
end Go.Proofs.YtklpebfkgdklmabDoor
