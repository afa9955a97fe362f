/-
  WALKS: the writer as it grows, in one word; call.Encode.
-/
import Derived.Test.YtoemjedebpjhcaaDoorWrap
import Derived.Test.YtoemjedebpjhcaaDoorOctV
import Derived.Test.YtoemjedebpjhcaaDoorCallMath
import Derived.Test.YtoemjedebpjhcaaDoorText
import Derived.Lib.ConvBytes
namespace Go.Proofs.YtoemjedebpjhcaaDoor
open Go.RowKit

/-- '[]byte(s)': a new row. -/
theorem conv_text (w : World) (s : ByteArray) : (convert 9 22 (.string s)).run Tryd.prog w = .ok (.slice (some ⟨w.heap.size, 0, none⟩) s.size (grownCap w s.size 0 5)) (Lib.bytesWorld w 5 s) :=
  Lib.run_convert_string_bytes w _ _ _ s Tryd.underlying9 Tryd.underlying22 Tryd.underlying5
theorem kf_bytes (w : World) (E : TypeId) (s : ByteArray) : KF w (Lib.bytesWorld w E s) :=
  ⟨rfl, rfl, rfl, by rw [Lib.bytesWorld_size]; omega, fun k hk _ => Lib.bytesWorld_at_old w E s k hk⟩
theorem rd_bytes (w : World) (E : TypeId) (s : ByteArray) : Rd (Lib.bytesWorld w E s) (w.heap.size + 1) (some ⟨w.heap.size, 0, none⟩) s.data.toList := fun j b hj => by
  have hlt : j < s.data.toList.length := by
    rcases Nat.lt_or_ge j s.data.toList.length with h | h
    · exact h
    · rw [List.getElem?_eq_none h] at hj; cases hj
  refine ⟨_, rfl, Nat.lt_succ_self _, ?_⟩
  rw [show (⟨w.heap.size, 0, none⟩ : Addr).add j = ⟨w.heap.size, j, none⟩ by unfold Addr.add; split <;> simp_all, Lib.bytesWorld_cell w E s j (by rw [size_len]; exact hlt), List.getD, hj]
  rfl

/-- The writer in block g has put l; since the world a only its own blocks have turned. -/
def Wn (a w : World) (g : Nat) (l : List UInt8) : Prop := ∃ v, Wr w g v l ∧ Keep (fun k => k = g) a w ∧ NB a v
theorem Wn.keep {a w : World} {g : Nat} {l : List UInt8} (h : Wn a w g l) : Keep (fun k => k = g) a w := by
  obtain ⟨_, _, k, _⟩ := h
  exact k
theorem Wn.lt {a w : World} {g : Nat} {l : List UInt8} (h : Wn a w g l) : g < w.heap.size := by
  obtain ⟨_, hw, _, _⟩ := h
  exact hw.lt
theorem Wn.later {a w w' : World} {g : Nat} {l : List UInt8} (h : Wn a w g l) (k : KF w w') : Wn a w' g l := by
  obtain ⟨v, hw, hk, hn⟩ := h
  exact ⟨v, hw.kept k (fun h => h) (fun _ _ h => h), hk.trans k (fun _ _ h => h.elim), hn⟩
theorem Wn.call {a w : World} {g : Nat} {l l' : List UInt8} {f : FuncId} {args : Array Value} (h : Wn a w g l) (hc : ∀ v, Wr w g v l → NB a v → Calls Tryd.prog f args w (Put w g v l')) :
    Calls Tryd.prog f args w fun e w' => e = .returned (.tuple #[]) ∧ Wn a w' g l' := by
  obtain ⟨v, hw, hk, hn⟩ := h
  refine (hc v hw hn).mono ?_
  rintro e w' ⟨rfl, v', hw', hk', hf⟩
  refine ⟨rfl, v', hw', hk.trans hk' ?_, fun k hk2 => ?_⟩
  · rintro i hi (h | h)
    · exact h
    · have := hn i h
      omega
  · rcases hf with hf | ⟨k', hk', hle⟩
    · exact hn k (hf ▸ hk2)
    · rw [hk'] at hk2
      injection hk2 with hk2
      have := hk.size
      omega
theorem Wn.byte {a w : World} {g : Nat} {l : List UInt8} (h : Wn a w g l) (b : UInt8) (hb : l.length ≤ 35184372088832) :
    Calls Tryd.prog 24 #[.pointer (some ⟨g, 0, none⟩), .int .u8 b.toNat] w fun e w' => e = .returned (.tuple #[]) ∧ Wn a w' g (l ++ [b]) :=
  h.call fun v hw _ => byte_any g v l b w hw (by omega)
set_option maxHeartbeats 400000 in
theorem wint_any (g : Nat) (v : Value) (l : List UInt8) (z : Int) (w : World) (h : Wr w g v l) (hb : l.length ≤ 35184372088832) :
    Calls Tryd.prog 26 #[.pointer (some ⟨g, 0, none⟩), .int .i64 z] w (Put w g v (l ++ be (u64 z) 8)) := by
  have N0 := number_any g v l (u64 z) 8 w h (u64_lt z) (by omega)
  rw [show sz 8 = 8 by decide] at N0
  have hz : IntKind.u64.wrap z = (u64 z : Int) := by rw [IntKind.wrap_u64]; unfold u64; omega
  generalize u64 z = x at *
  have N := Lib.hid N0
  clear N0
  go_enter Tryd.func26, Tryd.ntmps26
  go_wp2_with fail
  refine N.out.mono ?_
  rintro e w1 ⟨rfl, h1⟩
  go_wp2
  go_end0
  exact ⟨rfl, h1⟩
theorem Wn.int {a w : World} {g : Nat} {l : List UInt8} (h : Wn a w g l) (z : Int) (hb : l.length ≤ 35184372088832) :
    Calls Tryd.prog 26 #[.pointer (some ⟨g, 0, none⟩), .int .i64 z] w fun e w' => e = .returned (.tuple #[]) ∧ Wn a w' g (l ++ be (u64 z) 8) :=
  h.call fun v hw _ => wint_any g v l z w hw hb
theorem Wn.count {a w : World} {g : Nat} {l : List UInt8} (h : Wn a w g l) (n : Nat) (hn : n ≤ 1000000000) (hb : l.length ≤ 35184372088832) :
    Calls Tryd.prog 52 #[.pointer (some ⟨g, 0, none⟩), .int .i64 n] w fun e w' => e = .returned (.tuple #[]) ∧ Wn a w' g (l ++ be n 4) :=
  h.call fun v hw _ => wcount_any g v l n w hw (by omega) (by omega)
theorem Wn.bytes {a w : World} {g : Nat} {l : List UInt8} (h : Wn a w g l) (A : Option Addr) (m : List UInt8) (c : Nat) (hm : m.length ≤ 1000000000) (hb : l.length ≤ 35184372088832) (B : Nat) (hr : Rd w B A m) (hB : B ≤ g) (hBa : B ≤ a.heap.size) :
    Calls Tryd.prog 25 #[.pointer (some ⟨g, 0, none⟩), .slice A m.length c] w fun e w' => e = .returned (.tuple #[]) ∧ Wn a w' g (l ++ tx m) := by
  have e : l ++ tx m = l ++ be m.length 4 ++ m := by unfold tx; rw [List.append_assoc]
  rw [e]
  have hlt := h.lt
  refine h.call fun v hw hn => wbytes_any g v l m A m.length c w hw rfl (by omega) hb B hr (by omega) ?_
  rintro x hx h0 (h' | h')
  · obtain ⟨y, hy, hyb⟩ := hr.some_of h0
    rw [hy] at hx
    injection hx with hx
    subst hx
    omega
  · obtain ⟨y, hy, hyb⟩ := hr.some_of h0
    rw [hy] at hx
    injection hx with hx
    subst hx
    have := hn _ h'
    omega
theorem Wn.text {a w : World} {g : Nat} {l : List UInt8} (h : Wn a w g l) (s : ByteArray) (c : Nat) (hm : s.size ≤ 1000000000) (hb : l.length ≤ 35184372088832) :
    Calls Tryd.prog 25 #[.pointer (some ⟨g, 0, none⟩), .slice (some ⟨w.heap.size, 0, none⟩) s.size c] (Lib.bytesWorld w 5 s) fun e w' => e = .returned (.tuple #[]) ∧ Wn a w' g (l ++ tx s.data.toList) := by
  have e : l ++ tx s.data.toList = l ++ be s.size 4 ++ s.data.toList := by unfold tx; rw [List.append_assoc, ← size_len]
  rw [e]
  have hlt := h.lt
  have hold : ∀ v, Wr w g v l → ∀ k, v.ownBlock = some k → k < w.heap.size := fun v hw => hw.own.lt
  have hk := h.keep.size
  have key : ∀ v, Wr w g v l → Wr (Lib.bytesWorld w 5 s) g v l := fun v hw => hw.kept (kf_bytes w _ s) (fun h => h) (fun _ _ h => h)
  obtain ⟨v0, hw0, hk0, hn0⟩ := h
  have := Wn.call (a := a) (w := Lib.bytesWorld w 5 s) (g := g) (l := l) (Wn.later ⟨v0, hw0, hk0, hn0⟩ (kf_bytes w _ s)) (f := 25) (args := #[.pointer (some ⟨g, 0, none⟩), .slice (some ⟨w.heap.size, 0, none⟩) s.size c]) (l' := l ++ be s.size 4 ++ s.data.toList) (fun v hw hn => by
    refine wbytes_any g v l s.data.toList (some ⟨w.heap.size, 0, none⟩) s.size c _ hw (size_len s) (by rw [← size_len]; omega) hb (w.heap.size + 1) (rd_bytes w _ s) (by rw [Lib.bytesWorld_size]; omega) ?_
    have hv : v = v0 := by
      have h1 := hw.block
      rw [(key v0 hw0).block] at h1
      simp only [Option.some.injEq, Obj.cells.injEq, Array.mk.injEq, List.cons.injEq, and_true] at h1
      exact h1.symm
    subst hv
    rintro x hx _ (h' | h')
    · injection hx with hx
      subst hx
      simp only at h'
      omega
    · injection hx with hx
      subst hx
      have := hold v hw0 _ h'
      simp only at this
      omega)
  exact this
theorem Wn.txt {a w : World} {g : Nat} {l : List UInt8} (h : Wn a w g l) (p : Txt) (c : Nat) (hm : p.length ≤ 1000000000) (hb : l.length ≤ 35184372088832) :
    Calls Tryd.prog 25 #[.pointer (some ⟨g, 0, none⟩), .slice (some ⟨w.heap.size, 0, none⟩) p.length c] (Lib.bytesWorld w 5 (ba p)) fun e w' => e = .returned (.tuple #[]) ∧ Wn a w' g (l ++ tx p) := by
  have h1 := h.text (ba p) c (by rw [ba_size]; exact hm) hb
  rw [ba_size] at h1
  exact h1

/-- The six cells of a call. -/
theorem six_cells {w : World} {g : Nat} {T : TypeId} {v0 v1 v2 v3 v4 v5 : Value} (h : w.heap[g]? = some (.cells #[v0, v1, v2, v3, v4, v5] T)) :
    w.cell? ⟨g, 0, none⟩ = some v0 ∧ w.cell? ⟨g, 1, none⟩ = some v1 ∧ w.cell? ⟨g, 2, none⟩ = some v2 ∧ w.cell? ⟨g, 3, none⟩ = some v3 ∧ w.cell? ⟨g, 4, none⟩ = some v4 ∧ w.cell? ⟨g, 5, none⟩ = some v5 := by
  refine ⟨?_, ?_, ?_, ?_, ?_, ?_⟩ <;> simp [World.cell?, h]
set_option maxRecDepth 100000 in
set_option maxHeartbeats 1000000 in
theorem encode_any (x : TCall) (A : Option Addr) (d c : Nat) (w : World) (ht : Tab w) (hp : x.path.length ≤ 1000000) (ho : x.other.length ≤ 1000000) (hd : x.data.length ≤ 1000000) (hdl : d = x.data.length) (hr : Rd w w.heap.size A x.data) :
    Calls Tryd.prog 9 #[.agg #[.int .i64 x.kind, .string (ba x.path), .string (ba x.other), .int .i64 x.off, .int .i64 x.n, .slice A d c]] w (Fresh w ((encC x).length + 4) (wrapB (encC x))) := by
  obtain ⟨w1, hw1⟩ : ∃ w1, w.alloc (.cells #[.int .i64 x.kind, .string (ba x.path), .string (ba x.other), .int .i64 x.off, .int .i64 x.n, .slice A d c] 24) = w1 := ⟨_, rfl⟩
  obtain ⟨w2, hw2⟩ : ∃ w2, w1.alloc (.cells #[.slice none 0 0] 55) = w2 := ⟨_, rfl⟩
  obtain ⟨g0, hg0⟩ : ∃ g0, w.heap.size = g0 := ⟨_, rfl⟩
  obtain ⟨g1, hg1⟩ : ∃ g1, w1.heap.size = g1 := ⟨_, rfl⟩
  have s1 : w1.heap.size = w.heap.size + 1 := by rw [← hw1]; simp
  have s2 : w2.heap.size = w1.heap.size + 1 := by rw [← hw2]; simp
  have b1 : w1.heap[g0]? = some (.cells #[.int .i64 x.kind, .string (ba x.path), .string (ba x.other), .int .i64 x.off, .int .i64 x.n, .slice A d c] 24) := by rw [← hw1, ← hg0]; exact heap_alloc_new w _
  have b2 : w2.heap[g1]? = some (.cells #[.slice none 0 0] 55) := by rw [← hw2, ← hg1]; exact heap_alloc_new w1 _
  have k01 : KF w w1 := by rw [← hw1]; exact (KF.refl _).alloc _
  have k12 : KF w1 w2 := by rw [← hw2]; exact (KF.refl _).alloc _
  have k02 := KF.trans k01 k12
  have W2 : Wn w2 w2 g1 [] := ⟨.slice none 0 0, ⟨b2, Own.nil _ _⟩, Keep.refl _ _, NB.nil _⟩
  have hlt01 : g0 < g1 := by omega
  have hlt12 : g1 < w2.heap.size := by omega
  have CELL := Lib.hid fun wx l (h : Wn w2 wx g1 l) => six_cells (((h.keep).block g0 (by omega) (by omega)).trans ((k12.block g0 (by omega) (fun h => h)).trans b1))
  have RD := Lib.hid fun wx l (h : Wn w2 wx g1 l) => show Rd wx w.heap.size A x.data from (hr.keepF k02 (Nat.le_refl _)).below (h.keep.below (B := w.heap.size) k02.size (fun i hi he => by omega))
  have HW1 := Lib.hid hw1
  have HW2 := Lib.hid hw2
  have HG0 := Lib.hid hg0
  have HG1 := Lib.hid hg1
  have cv := conv_text
  have hk8 : IntKind.u8.wrap x.kind = ((b8 x.kind).toNat : Int) := by rw [IntKind.wrap_u8, b8_toNat]; omega
  have hencl := Lib.hid (encC_length x)
  have HDL := Lib.hid hdl
  have HT2 := Lib.hid (ht.kept k02 (fun h => h))
  clear b1 b2 k01 k12 hw1 hw2 hg0 s1 s2 hdl ht hr hg1
  go_enter Tryd.func9, Tryd.ntmps9
  go_upto_region 1 with fail
  rw [HW1.out, HG0.out]
  go_upto_region 2 with fail
  rw [HW2.out, HG1.out]
  obtain ⟨c0, c1, c2, c3, c4, c5⟩ := CELL.out _ _ W2
  have C0 := Lib.hid (W2.byte (b8 x.kind) (by simp))
  go_wp2_with fail
  refine C0.out.mono ?_
  rintro e w3 ⟨rfl, W3⟩
  clear c0 c1 c2 c3 c4 c5 C0 hk8
  obtain ⟨c0, c1, c2, c3, c4, c5⟩ := CELL.out _ _ W3
  have C1 := Lib.hid (fun cc => W3.txt x.path cc (by omega) (by simp))
  go_wp2_with fail
  refine (C1.out _).mono ?_
  rintro e w4 ⟨rfl, W4⟩
  clear c0 c1 c2 c3 c4 c5 C1
  obtain ⟨c0, c1, c2, c3, c4, c5⟩ := CELL.out _ _ W4
  have C2 := Lib.hid (fun cc => W4.txt x.other cc (by omega) (by simp [tx_length]; omega))
  go_wp2_with fail
  refine (C2.out _).mono ?_
  rintro e w5 ⟨rfl, W5⟩
  clear c0 c1 c2 c3 c4 c5 C2
  obtain ⟨c0, c1, c2, c3, c4, c5⟩ := CELL.out _ _ W5
  have C3 := Lib.hid (W5.int x.off (by simp [tx_length]; omega))
  go_wp2_with fail
  refine C3.out.mono ?_
  rintro e w6 ⟨rfl, W6⟩
  clear c0 c1 c2 c3 c4 c5 C3
  obtain ⟨c0, c1, c2, c3, c4, c5⟩ := CELL.out _ _ W6
  have C4 := Lib.hid (W6.int x.n (by simp [tx_length, be_length]; omega))
  go_wp2_with fail
  refine C4.out.mono ?_
  rintro e w7 ⟨rfl, W7⟩
  clear c0 c1 c2 c3 c4 c5 C4
  obtain ⟨c0, c1, c2, c3, c4, c5⟩ := CELL.out _ _ W7
  have C5 := Lib.hid (W7.bytes A x.data c (by omega) (by simp [tx_length, be_length]; omega) w.heap.size (RD.out _ _ W7) (by rw [HG0.out]; omega) k02.size)
  rw [← HDL.out] at C5
  go_wp2_with fail
  refine C5.out.mono ?_
  rintro e w8 ⟨rfl, W8⟩
  have hl8 : [] ++ [b8 x.kind] ++ tx x.path ++ tx x.other ++ be (u64 x.off) 8 ++ be (u64 x.n) 8 ++ tx x.data = encC x := by simp only [encC, List.nil_append]
  rw [hl8] at W8
  clear c0 c1 c2 c3 c4 c5 C5 hl8
  obtain ⟨v8, hw8, hk8, hn8⟩ := W8
  have hbl : (encC x).length ≤ 3000029 := by have := hencl.out; omega
  generalize encC x = L at *
  generalize hll : L.length = ll at *
  have HLL := Lib.hid hll
  clear hll
  have C6 := Lib.hid (out_any g1 v8 L w8 hw8 (by rw [HLL.out]; omega))
  rw [HLL.out] at C6
  have HT8 := Lib.hid (HT2.out.kept hk8 (fun h => by have := HT2.out.lt; have := HG1.out; have h2 : 0 = g1 := h; omega))
  have hkw : KF w w8 := Keep.trans k02 hk8 (fun i hi h => by have := HG0.out; have h2 : i = g1 := h; omega)
  clear CELL RD hk8 W2 W3 W4 W5 W6 W7 HT2 HG1 HW1 HW2 hencl
  go_wp2_with fail
  refine C6.out.mono ?_
  rintro e w9 ⟨A9, c9, rfl, o9, n9, k9⟩
  have C7 := Lib.hid (wrap_any A9 L c9 w9 (by rw [HLL.out]; omega) (HT8.out.kept k9 (fun h => h)) w9.heap.size o9.rd (Nat.le_refl _))
  rw [HLL.out] at C7
  go_wp2_with fail
  refine C7.out.mono ?_
  rintro e w10 ⟨A10, c10, rfl, o10, n10, k10⟩
  have hk9 := KF.trans hkw k9
  go_wp2
  go_ret
  exact ⟨A10, c10, rfl, o10, n10.older hk9.size, KF.trans hk9 k10⟩
end Go.Proofs.YtoemjedebpjhcaaDoor
