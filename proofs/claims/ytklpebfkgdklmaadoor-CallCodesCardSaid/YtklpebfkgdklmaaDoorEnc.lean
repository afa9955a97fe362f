/-
  WALKS: call.Encode.
-/
import Derived.Test.YtklpebfkgdklmaaDoorPut
import Derived.Shelf.Abstract
namespace Go.Proofs.YtklpebfkgdklmaaDoor
open Go.RowKit Go.Shelf

set_option maxRecDepth 100000 in
set_option maxHeartbeats 1000000 in
theorem encode1_any (x : TCall) (A : Option Addr) (d c B g0 g1 : Nat) (w2 : World) (hp : x.path.length ≤ 1000000) (ho : x.other.length ≤ 1000000) (hd : x.data.length ≤ 1000000) (hdl : d = x.data.length)
    (hb : w2.heap[g0]? = some (.cells #[.int .i64 x.kind, .string (ba x.path), .string (ba x.other), .int .i64 x.off, .int .i64 x.n, .slice A d c] 24)) (h01 : g0 < g1) (hg1 : g1 < w2.heap.size) (hr : Rd w2 B A x.data) (hB : B ≤ g1) (W2 : Wn w2 w2 g1 []) :
    Calls Tryd.prog 25 #[.pointer (some ⟨g1, 0, none⟩), .pointer (some ⟨g0, 0, none⟩)] w2 fun e w' => e = .returned (.tuple #[]) ∧ Wn w2 w' g1 (encC x) := by
  have CELL := Lib.hid fun wx l (h : Wn w2 wx g1 l) => six_cells (((h.keep).block g0 (by omega) (by omega)).trans hb)
  have RD := Lib.hid fun wx l (h : Wn w2 wx g1 l) => show Rd wx B A x.data from hr.below (h.keep.below (B := B) (by omega) (fun i hi he => by omega))
  have cv := conv_text
  have hk8 : IntKind.u8.wrap x.kind = ((b8 x.kind).toNat : Int) := by rw [IntKind.wrap_u8, b8_toNat]; omega
  have HDL := Lib.hid hdl
  have hB2 := Lib.hid (show B ≤ w2.heap.size by omega)
  clear hdl hb hr
  go_enter Tryd.func25, Tryd.ntmps25
  obtain ⟨c0, c1, c2, c3, c4, c5⟩ := CELL.out _ _ W2
  have C0 := Lib.hid (W2.byte (b8 x.kind) (by simp))
  go_wp2_with fail
  refine C0.out.mono ?_
  rintro e w3 ⟨rfl, W3⟩
  clear c0 c1 c2 c3 c4 c5 C0 hk8
  obtain ⟨c0, c1, c2, c3, c4, c5⟩ := CELL.out _ _ W3
  have C1 := Lib.hid (fun cc => W3.txt x.path cc (by omega) (by simp))
  go_wp2_with fail
  refine (C1.out _).mono ?_
  rintro e w4 ⟨rfl, W4⟩
  clear c0 c1 c2 c3 c4 c5 C1
  obtain ⟨c0, c1, c2, c3, c4, c5⟩ := CELL.out _ _ W4
  have C2 := Lib.hid (fun cc => W4.txt x.other cc (by omega) (by simp [tx_length]; omega))
  go_wp2_with fail
  refine (C2.out _).mono ?_
  rintro e w5 ⟨rfl, W5⟩
  clear c0 c1 c2 c3 c4 c5 C2
  obtain ⟨c0, c1, c2, c3, c4, c5⟩ := CELL.out _ _ W5
  have C3 := Lib.hid (W5.int x.off (by simp [tx_length]; omega))
  go_wp2_with fail
  refine C3.out.mono ?_
  rintro e w6 ⟨rfl, W6⟩
  clear c0 c1 c2 c3 c4 c5 C3
  obtain ⟨c0, c1, c2, c3, c4, c5⟩ := CELL.out _ _ W6
  have C4 := Lib.hid (W6.int x.n (by simp [tx_length, be_length]; omega))
  go_wp2_with fail
  refine C4.out.mono ?_
  rintro e w7 ⟨rfl, W7⟩
  clear c0 c1 c2 c3 c4 c5 C4
  obtain ⟨c0, c1, c2, c3, c4, c5⟩ := CELL.out _ _ W7
  have C5 := Lib.hid (W7.bytes A x.data c (by omega) (by simp [tx_length, be_length]; omega) B (RD.out _ _ W7) hB hB2.out)
  rw [← HDL.out] at C5
  go_wp2_with fail
  refine C5.out.mono ?_
  rintro e w8 ⟨rfl, W8⟩
  have hl8 : [] ++ [b8 x.kind] ++ tx x.path ++ tx x.other ++ be (u64 x.off) 8 ++ be (u64 x.n) 8 ++ tx x.data = encC x := by simp only [encC, List.nil_append]
  rw [hl8] at W8
  clear c0 c1 c2 c3 c4 c5 C5 hl8
  go_wp2
  go_end0
  exact ⟨rfl, W8⟩

set_option maxRecDepth 100000 in
set_option maxHeartbeats 1000000 in
theorem encode_any (x : TCall) (A : Option Addr) (d c : Nat) (w : World) (ht : Tab w) (hp : x.path.length ≤ 1000000) (ho : x.other.length ≤ 1000000) (hd : x.data.length ≤ 1000000) (hdl : d = x.data.length) (hr : Rd w w.heap.size A x.data) :
    Calls Tryd.prog 9 #[.agg #[.int .i64 x.kind, .string (ba x.path), .string (ba x.other), .int .i64 x.off, .int .i64 x.n, .slice A d c]] w (Fresh w ((encC x).length + 4) (wrapB (encC x))) := by
  obtain ⟨w1, hw1⟩ : ∃ w1, w.alloc (.cells #[.int .i64 x.kind, .string (ba x.path), .string (ba x.other), .int .i64 x.off, .int .i64 x.n, .slice A d c] 24) = w1 := ⟨_, rfl⟩
  obtain ⟨g0, hg0⟩ : ∃ g0, w.heap.size = g0 := ⟨_, rfl⟩
  have s1 : w1.heap.size = w.heap.size + 1 := by rw [← hw1]; simp
  have b1 : w1.heap[g0]? = some (.cells #[.int .i64 x.kind, .string (ba x.path), .string (ba x.other), .int .i64 x.off, .int .i64 x.n, .slice A d c] 24) := by rw [← hw1, ← hg0]; exact heap_alloc_new w _
  have k01 : KF w w1 := by rw [← hw1]; exact (KF.refl _).alloc _
  have hencl := encC_length x
  have C := Lib.hid (sput_any 25 #[.pointer (some ⟨g0, 0, none⟩)] (encC x) w1 (enters_of Tryd.func25 (by kernel_rfl) rfl) (by omega) (ht.kept k01 (fun h => h))
    fun w2 g k02 hg hlt W2 => encode1_any x A d c w.heap.size g0 g w2 hp ho hd hdl ((k02.block g0 (by omega) (fun h => h)).trans b1) (by omega) hlt ((hr.keepF k01 (Nat.le_refl _)).keepF k02 k01.size) (by omega) W2)
  have HW1 := Lib.hid hw1
  have HG0 := Lib.hid hg0
  clear b1 hw1 hg0 s1 hdl ht hr hencl
  generalize (encC x).length = ll at *
  generalize wrapB (encC x) = L at *
  have hmf : ∀ (fn : Fn) (first cap : Array Value) (w : World), (Instr.makeFunc fn first cap).run Tryd.prog w = .ok (.func fn first cap) w := fun fn first cap w => rfl
  go_enter Tryd.func9, Tryd.ntmps9
  go_upto_region 1 with fail
  rw [HW1.out, HG0.out]
  go_wp2_with fail
  refine C.out.mono ?_
  rintro e w9 ⟨A9, c9, rfl, o9, n9, k9⟩
  go_wp2
  go_ret
  exact ⟨A9, c9, rfl, o9, n9.older k01.size, KF.trans k01 k9⟩
end Go.Proofs.YtklpebfkgdklmaaDoor
