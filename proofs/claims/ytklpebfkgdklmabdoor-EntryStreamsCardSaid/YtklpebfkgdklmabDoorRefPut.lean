/-
  WALKS of the document's own answers: bytes that grow behind others (Int, Bytes), in one word: Gr.
-/
import Derived.Test.YtklpebfkgdklmabDoorRefSum
import Derived.Test.YtklpebfkgdklmabDoorCallMath
import Derived.Test.YtklpebfkgdklmabDoorText
namespace Go.Proofs.YtklpebfkgdklmabDoor
open Go.RowKit

/-- The row v holds l, newer than the world a; of a nothing has turned. -/
structure Gr (a w : World) (v : Value) (l : List UInt8) : Prop where
  own : Own 5 w v l
  keep : KF a w
  new : NB a v
theorem Gr.lit (a : World) (b : UInt8) : Gr a (a.alloc (.cells #[.int .u8 b.toNat] 5)) (.slice (some ⟨a.heap.size, 0, none⟩) 1 1) [b] :=
  ⟨Own.lit 5 a [b] (by simp [maxLen]), (KF.refl a).alloc _, NB.new (Nat.le_refl _) _ _⟩
theorem Gr.later {a w w' : World} {v : Value} {l : List UInt8} (h : Gr a w v l) (k : KF w w') : Gr a w' v l := ⟨h.own.kept k (fun _ _ h => h), KF.trans h.keep k, h.new⟩
theorem Gr.puts {a w w' : World} {v : Value} {l l' : List UInt8} {e : Ending} (h : Gr a w v l) (p : Puts w v l' e w') : ∃ A' c', e = .returned (.slice A' l'.length c') ∧ Gr a w' (.slice A' l'.length c') l' := by
  obtain ⟨A', m', c', rfl, ho, k, hp⟩ := p
  have hm := ho.len
  subst hm
  refine ⟨A', c', rfl, ho, Keep.trans h.keep k (fun i hi (e : v.ownBlock = some i) => by have := h.new i e; omega), fun i hi => ?_⟩
  rcases hp with hp | ⟨q, hq, hle⟩
  · exact h.new i (hp ▸ hi)
  · rw [hq] at hi
    injection hi with hi
    have := h.keep.size
    omega
/-- What append leaves, behind a new block for what is appended. -/
theorem Gr.app {a w w6 : World} {v v6 : Value} {l l6 : List UInt8} {o : Obj} (h : Gr a w v l) (o6 : Own 5 w6 v6 l6) (g6 : (w.alloc o).grownBy w6 v.ownBlock) (f6 : v6.ownBlock = v.ownBlock ∨ v6.ownBlock = some (w.alloc o).heap.size) : Gr a w6 v6 l6 := by
  refine ⟨o6, (h.keep.alloc _).own g6 h.new, fun i hi => ?_⟩
  rcases f6 with f6 | f6
  · exact h.new i (f6 ▸ hi)
  · rw [f6] at hi
    injection hi with hi
    have := h.keep.size
    simp at hi
    omega
/-- What a call leaves that puts more behind. -/
def Grows (a : World) (l : List UInt8) (e : Ending) (w' : World) : Prop := ∃ A c, e = .returned (.slice A l.length c) ∧ Gr a w' (.slice A l.length c) l
theorem gput {a w : World} {A : Option Addr} {c : Nat} {l : List UInt8} (h : Gr a w (.slice A l.length c) l) (x n : Nat) (hx : x < 18446744073709551616) (hn : n ≤ 8) (hb : l.length ≤ 70368744177600) :
    Calls Tryd.prog 27 #[.slice A l.length c, .int .u64 x, .int .i64 n] w (Grows a (l ++ be x n)) :=
  (put_any A l.length c l x n w h.own hx hn hb).mono fun _ _ p => h.puts p
theorem gput4 {a w : World} {A : Option Addr} {c : Nat} {l : List UInt8} (h : Gr a w (.slice A l.length c) l) (z : Int) (hb : l.length ≤ 70368744177600) :
    Calls Tryd.prog 27 #[.slice A l.length c, .int .u64 (u64 z : Nat), .int .i64 4] w (Grows a (l ++ be (u64 z) 4)) := gput h (u64 z) 4 (u64_lt z) (by omega) hb
set_option maxHeartbeats 400000 in
theorem gint {a w : World} {A : Option Addr} {c m : Nat} {l : List UInt8} (h : Gr a w (.slice A m c) l) (hm : m = l.length) (z : Int) (hb : l.length ≤ 70368744177600) :
    Calls Tryd.prog 28 #[.slice A m c, .int .i64 z] w (Grows a (l ++ be (u64 z) 8)) := by
  subst hm
  have C := Lib.hid (gput h (u64 z) 8 (u64_lt z) (by omega) hb)
  have hz : IntKind.u64.wrap z = (u64 z : Int) := by rw [IntKind.wrap_u64]; unfold u64; omega
  generalize u64 z = x at *
  clear h
  generalize l ++ be x 8 = L at *
  generalize l.length = m at *
  go_enter Tryd.func28, Tryd.ntmps28
  go_wp2_with fail
  refine C.out.mono ?_
  rintro e w1 ⟨A1, c1, rfl, g1⟩
  go_wp2_with fail
  go_ret
  exact ⟨A1, c1, rfl, g1⟩
set_option maxHeartbeats 400000 in
theorem gbytes {a w : World} {A : Option Addr} {c m : Nat} {l : List UInt8} (h : Gr a w (.slice A m c) l) (hm : m = l.length) (B : Option Addr) (d n : Nat) (b : List UInt8) (hn : n = b.length) (hl : b.length ≤ 1000000000) (hb : l.length ≤ 35184372088832) (hr : Rd a a.heap.size B b) :
    Calls Tryd.prog 29 #[.slice A m c, .slice B n d] w (Grows a (l ++ tx b)) := by
  subst hm
  have C := Lib.hid (gput h b.length 4 (by omega) (by omega) (by omega))
  have hz : IntKind.u64.wrap ((n : Nat) : Int) = (b.length : Int) := by rw [IntKind.wrap_u64]; omega
  have HN := Lib.hid hn
  have e : l ++ tx b = (l ++ be b.length 4) ++ b := by unfold tx; rw [List.append_assoc]
  rw [e]
  have hlb : (l ++ be b.length 4).length + b.length ≤ 70368744177664 := by simp [be_length]; omega
  clear h hn e
  generalize l ++ be b.length 4 = L at *
  generalize l.length = m at *
  generalize hbl : b.length = bl at *
  have HBL := Lib.hid hbl
  clear hbl
  go_enter Tryd.func29, Tryd.ntmps29
  go_wp2_with fail
  refine C.out.mono ?_
  rintro e w1 ⟨A1, c1, rfl, g1⟩
  have hr1 : Rd w1 a.heap.size B b := hr.keepF g1.keep (Nat.le_refl _)
  generalize hL : L.length = ml at *
  have HL := Lib.hid hL
  clear hL
  go_wp2_with (at_builtin; refine wpList_append_u8 _ rfl _ _ _ rfl bytesT _ L rfl g1.own a.heap.size B n d b rfl (by rw [HBL.out]; exact HN.out) hr1 (by rw [HL.out, HBL.out]; exact hlb) ?_; intro A4 n4 c4 w4 o4 e4 h4 m4 g4 f4)
  go_ret
  have hn4 := e4.out
  subst hn4
  refine ⟨A4, c4, rfl, o4, g1.keep.own g4 g1.new, g1.new.next g1.keep.size f4⟩
end Go.Proofs.YtklpebfkgdklmabDoor
