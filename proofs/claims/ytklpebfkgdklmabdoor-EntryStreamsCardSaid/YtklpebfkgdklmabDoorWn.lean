/-
  WALKS: the writer as it grows, in one word.
-/
import Derived.Test.YtklpebfkgdklmabDoorWrap
import Derived.Test.YtklpebfkgdklmabDoorOctV
import Derived.Test.YtklpebfkgdklmabDoorCallMath
import Derived.Test.YtklpebfkgdklmabDoorText
import Derived.Lib.ConvBytes
namespace Go.Proofs.YtklpebfkgdklmabDoor
open Go.RowKit

/-- '[]byte(s)': a new row. -/
theorem conv_text (w : World) (s : ByteArray) : (convert 9 24 (.string s)).run Tryd.prog w = .ok (.slice (some ⟨w.heap.size, 0, none⟩) s.size (grownCap w s.size 0 5)) (Lib.bytesWorld w 5 s) :=
  Lib.run_convert_string_bytes w _ _ _ s Tryd.underlying9 Tryd.underlying24 Tryd.underlying5
theorem kf_bytes (w : World) (E : TypeId) (s : ByteArray) : KF w (Lib.bytesWorld w E s) :=
  ⟨rfl, rfl, rfl, by rw [Lib.bytesWorld_size]; omega, fun k hk _ => Lib.bytesWorld_at_old w E s k hk⟩
theorem rd_bytes (w : World) (E : TypeId) (s : ByteArray) : Rd (Lib.bytesWorld w E s) (w.heap.size + 1) (some ⟨w.heap.size, 0, none⟩) s.data.toList := fun j b hj => by
  have hlt : j < s.data.toList.length := by
    rcases Nat.lt_or_ge j s.data.toList.length with h | h
    · exact h
    · rw [List.getElem?_eq_none h] at hj; cases hj
  refine ⟨_, rfl, Nat.lt_succ_self _, ?_⟩
  rw [show (⟨w.heap.size, 0, none⟩ : Addr).add j = ⟨w.heap.size, j, none⟩ by unfold Addr.add; split <;> simp_all, Lib.bytesWorld_cell w E s j (by rw [size_len]; exact hlt), List.getD, hj]
  rfl

/-- The writer in block g has put l; since the world a only its own blocks have turned. -/
def Wn (a w : World) (g : Nat) (l : List UInt8) : Prop := ∃ v, Wr w g v l ∧ Keep (fun k => k = g) a w ∧ NB a v
theorem Wn.keep {a w : World} {g : Nat} {l : List UInt8} (h : Wn a w g l) : Keep (fun k => k = g) a w := by
  obtain ⟨_, _, k, _⟩ := h
  exact k
theorem Wn.lt {a w : World} {g : Nat} {l : List UInt8} (h : Wn a w g l) : g < w.heap.size := by
  obtain ⟨_, hw, _, _⟩ := h
  exact hw.lt
theorem Wn.later {a w w' : World} {g : Nat} {l : List UInt8} (h : Wn a w g l) (k : KF w w') : Wn a w' g l := by
  obtain ⟨v, hw, hk, hn⟩ := h
  exact ⟨v, hw.kept k (fun h => h) (fun _ _ h => h), hk.trans k (fun _ _ h => h.elim), hn⟩
theorem Wn.call {a w : World} {g : Nat} {l l' : List UInt8} {f : FuncId} {args : Array Value} (h : Wn a w g l) (hc : ∀ v, Wr w g v l → NB a v → Calls Tryd.prog f args w (Put w g v l')) :
    Calls Tryd.prog f args w fun e w' => e = .returned (.tuple #[]) ∧ Wn a w' g l' := by
  obtain ⟨v, hw, hk, hn⟩ := h
  refine (hc v hw hn).mono ?_
  rintro e w' ⟨rfl, v', hw', hk', hf⟩
  refine ⟨rfl, v', hw', hk.trans hk' ?_, fun k hk2 => ?_⟩
  · rintro i hi (h | h)
    · exact h
    · have := hn i h
      omega
  · rcases hf with hf | ⟨k', hk', hle⟩
    · exact hn k (hf ▸ hk2)
    · rw [hk'] at hk2
      injection hk2 with hk2
      have := hk.size
      omega
theorem Wn.byte {a w : World} {g : Nat} {l : List UInt8} (h : Wn a w g l) (b : UInt8) (hb : l.length ≤ 35184372088832) :
    Calls Tryd.prog 19 #[.pointer (some ⟨g, 0, none⟩), .int .u8 b.toNat] w fun e w' => e = .returned (.tuple #[]) ∧ Wn a w' g (l ++ [b]) :=
  h.call fun v hw _ => byte_any g v l b w hw (by omega)
set_option maxHeartbeats 400000 in
theorem wint_any (g : Nat) (v : Value) (l : List UInt8) (z : Int) (w : World) (h : Wr w g v l) (hb : l.length ≤ 35184372088832) :
    Calls Tryd.prog 21 #[.pointer (some ⟨g, 0, none⟩), .int .i64 z] w (Put w g v (l ++ be (u64 z) 8)) := by
  have N0 := number_any g v l (u64 z) 8 w h (u64_lt z) (by omega)
  rw [show sz 8 = 8 by decide] at N0
  have hz : IntKind.u64.wrap z = (u64 z : Int) := by rw [IntKind.wrap_u64]; unfold u64; omega
  generalize u64 z = x at *
  have N := Lib.hid N0
  clear N0
  go_enter Tryd.func21, Tryd.ntmps21
  go_wp2_with fail
  refine N.out.mono ?_
  rintro e w1 ⟨rfl, h1⟩
  go_wp2
  go_end0
  exact ⟨rfl, h1⟩
theorem Wn.int {a w : World} {g : Nat} {l : List UInt8} (h : Wn a w g l) (z : Int) (hb : l.length ≤ 35184372088832) :
    Calls Tryd.prog 21 #[.pointer (some ⟨g, 0, none⟩), .int .i64 z] w fun e w' => e = .returned (.tuple #[]) ∧ Wn a w' g (l ++ be (u64 z) 8) :=
  h.call fun v hw _ => wint_any g v l z w hw hb
theorem Wn.count {a w : World} {g : Nat} {l : List UInt8} (h : Wn a w g l) (n : Nat) (hn : n ≤ 1000000000) (hb : l.length ≤ 35184372088832) :
    Calls Tryd.prog 33 #[.pointer (some ⟨g, 0, none⟩), .int .i64 n] w fun e w' => e = .returned (.tuple #[]) ∧ Wn a w' g (l ++ be n 4) :=
  h.call fun v hw _ => wcount_any g v l n w hw (by omega) (by omega)
theorem Wn.bytes {a w : World} {g : Nat} {l : List UInt8} (h : Wn a w g l) (A : Option Addr) (m : List UInt8) (c : Nat) (hm : m.length ≤ 1000000000) (hb : l.length ≤ 35184372088832) (B : Nat) (hr : Rd w B A m) (hB : B ≤ g) (hBa : B ≤ a.heap.size) :
    Calls Tryd.prog 22 #[.pointer (some ⟨g, 0, none⟩), .slice A m.length c] w fun e w' => e = .returned (.tuple #[]) ∧ Wn a w' g (l ++ tx m) := by
  have e : l ++ tx m = l ++ be m.length 4 ++ m := by unfold tx; rw [List.append_assoc]
  rw [e]
  have hlt := h.lt
  refine h.call fun v hw hn => wbytes_any g v l m A m.length c w hw rfl (by omega) hb B hr (by omega) ?_
  rintro x hx h0 (h' | h')
  · obtain ⟨y, hy, hyb⟩ := hr.some_of h0
    rw [hy] at hx
    injection hx with hx
    subst hx
    omega
  · obtain ⟨y, hy, hyb⟩ := hr.some_of h0
    rw [hy] at hx
    injection hx with hx
    subst hx
    have := hn _ h'
    omega
theorem Wn.text {a w : World} {g : Nat} {l : List UInt8} (h : Wn a w g l) (s : ByteArray) (c : Nat) (hm : s.size ≤ 1000000000) (hb : l.length ≤ 35184372088832) :
    Calls Tryd.prog 22 #[.pointer (some ⟨g, 0, none⟩), .slice (some ⟨w.heap.size, 0, none⟩) s.size c] (Lib.bytesWorld w 5 s) fun e w' => e = .returned (.tuple #[]) ∧ Wn a w' g (l ++ tx s.data.toList) := by
  have e : l ++ tx s.data.toList = l ++ be s.size 4 ++ s.data.toList := by unfold tx; rw [List.append_assoc, ← size_len]
  rw [e]
  have hlt := h.lt
  have hold : ∀ v, Wr w g v l → ∀ k, v.ownBlock = some k → k < w.heap.size := fun v hw => hw.own.lt
  have hk := h.keep.size
  have key : ∀ v, Wr w g v l → Wr (Lib.bytesWorld w 5 s) g v l := fun v hw => hw.kept (kf_bytes w _ s) (fun h => h) (fun _ _ h => h)
  obtain ⟨v0, hw0, hk0, hn0⟩ := h
  have := Wn.call (a := a) (w := Lib.bytesWorld w 5 s) (g := g) (l := l) (Wn.later ⟨v0, hw0, hk0, hn0⟩ (kf_bytes w _ s)) (f := 22) (args := #[.pointer (some ⟨g, 0, none⟩), .slice (some ⟨w.heap.size, 0, none⟩) s.size c]) (l' := l ++ be s.size 4 ++ s.data.toList) (fun v hw hn => by
    refine wbytes_any g v l s.data.toList (some ⟨w.heap.size, 0, none⟩) s.size c _ hw (size_len s) (by rw [← size_len]; omega) hb (w.heap.size + 1) (rd_bytes w _ s) (by rw [Lib.bytesWorld_size]; omega) ?_
    have hv : v = v0 := by
      have h1 := hw.block
      rw [(key v0 hw0).block] at h1
      simp only [Option.some.injEq, Obj.cells.injEq, Array.mk.injEq, List.cons.injEq, and_true] at h1
      exact h1.symm
    subst hv
    rintro x hx _ (h' | h')
    · injection hx with hx
      subst hx
      simp only at h'
      omega
    · injection hx with hx
      subst hx
      have := hold v hw0 _ h'
      simp only at this
      omega)
  exact this
theorem Wn.txt {a w : World} {g : Nat} {l : List UInt8} (h : Wn a w g l) (p : Txt) (c : Nat) (hm : p.length ≤ 1000000000) (hb : l.length ≤ 35184372088832) :
    Calls Tryd.prog 22 #[.pointer (some ⟨g, 0, none⟩), .slice (some ⟨w.heap.size, 0, none⟩) p.length c] (Lib.bytesWorld w 5 (ba p)) fun e w' => e = .returned (.tuple #[]) ∧ Wn a w' g (l ++ tx p) := by
  have h1 := h.text (ba p) c (by rw [ba_size]; exact hm) hb
  rw [ba_size] at h1
  exact h1

/-- The six cells of a call. -/
theorem six_cells {w : World} {g : Nat} {T : TypeId} {v0 v1 v2 v3 v4 v5 : Value} (h : w.heap[g]? = some (.cells #[v0, v1, v2, v3, v4, v5] T)) :
    w.cell? ⟨g, 0, none⟩ = some v0 ∧ w.cell? ⟨g, 1, none⟩ = some v1 ∧ w.cell? ⟨g, 2, none⟩ = some v2 ∧ w.cell? ⟨g, 3, none⟩ = some v3 ∧ w.cell? ⟨g, 4, none⟩ = some v4 ∧ w.cell? ⟨g, 5, none⟩ = some v5 := by
  refine ⟨?_, ?_, ?_, ?_, ?_, ?_⟩ <;> simp [World.cell?, h]
end Go.Proofs.YtklpebfkgdklmabDoor
