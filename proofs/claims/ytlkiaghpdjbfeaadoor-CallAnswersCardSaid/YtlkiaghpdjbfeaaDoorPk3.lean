/-
  What is taken of bytes: so many bytes with their count ahead; what was put is taken. Unwrap in one word.
  WALKS: call.Decode.
  strings.IndexRune in the two signs that no name has, of a sign beyond ASCII: it isn't there.
  strings.ContainsAny at the two signs that no name has, of at most sixteen bytes of whatever kind; path.Name.
  path.Split: no path, or its names.
  The document's answer on names and rows of texts: Name, SameTexts, Join.
  The document's answer on a path's names: Split.
  WALKS: octet.List at texts, by the closure of call's takeAnswer.
-/
import Derived.Test.YtlkiaghpdjbfeaaDoorPhUnwrap
import Derived.Test.YtlkiaghpdjbfeaaDoorPk1
import Derived.Test.YtlkiaghpdjbfeaaDoorPk0
import Derived.Laws.BytesString
import Derived.Laws.IdiomStrings
import Derived.Test.YtlkiaghpdjbfeaaDoorChecked
import Derived.Test.YtlkiaghpdjbfeaaDoorShelf
import Derived.Laws.Runes
import Derived.Laws.RangeAny
import Derived.Deep.LoopGhost
import Derived.WalkMore
import Derived.Deep.CutRange
import Derived.Deep.DeepCutAuto
import Derived.Deep.QuietTactic
import Derived.BigQuiet
import Derived.Deep.DrawnRows
import Derived.Deep.RegionWith
import Derived.Lib.DecodeN
import Derived.Lib.OthersKept
import Derived.Shelf.Abstract
import Derived.Shelf.RegionOpen
import Derived.OwnWalkIn
import Derived.TacticsInMore
import Derived.LoopNIn
import Derived.LoopIn
namespace Go.Proofs.YtlkiaghpdjbfeaaDoor
open Go.RowKit

/-- Bytes that are taken, at most so many; what is left. -/
noncomputable def byV (m : Int) (s : List UInt8 × Bool) : Txt := tkL (cntV m s) (cntS m s).1 (cntS m s).2
noncomputable def byS (m : Int) (s : List UInt8 × Bool) : List UInt8 × Bool := tk (cntV m s) (cntS m s)
theorem byS_len (m : Int) (s : List UInt8 × Bool) : (byS m s).1.length ≤ s.1.length := Nat.le_trans (tk_len _ _) (cnt_len _ _)
/-- Bytes_, the length under a name. -/
theorem by_e (g : Nat) (s : List UInt8 × Bool) (most : Int) (w : World) (h : RdE w g s) (hb : s.1.length ≤ 70368744177664) :
    Calls Tryd.prog 43 #[.pointer (some ⟨g, 0, none⟩), .int .i64 most] w fun e w' => ∃ A1 c1, e = .returned (.slice A1 (byV most s).length c1) ∧ Rd w' w'.heap.size A1 (byV most s) ∧ (byV most s).length ≤ c1 ∧ RdE w' g (byS most s) ∧ Keep (fun k => k = g) w w' := by
  refine (bytes_e g s most w h hb).mono ?_
  rintro e w' ⟨A1, n1, c1, rfl, hn, hr, hle, hs, hk⟩
  obtain rfl := hn.out
  exact ⟨A1, c1, rfl, hr, hle, hs, hk⟩

theorem unwrap_dec (A : Option Addr) (l : List UInt8) (n c : Nat) (w : World) (hn : n = l.length) (hc : n ≤ c) (hm : c ≤ maxLen) (hb : l.length ≤ 1000000000) (ht : Tab w) (hr : Rd w w.heap.size A l) :
    Calls Tryd.prog 39 #[.slice A n c] w fun e w' => KF w w' ∧ (((l.length < 4 ∨ num (l.drop (l.length - 4)) ≠ crc (l.take (l.length - 4))) ∧ e = .returned (.tuple #[.slice none 0 0, .int .i64 3])) ∨
      (¬ (l.length < 4 ∨ num (l.drop (l.length - 4)) ≠ crc (l.take (l.length - 4))) ∧ ∃ A' c', e = .returned (.tuple #[.slice A' (l.length - 4) c', .int .i64 0]) ∧ Own 5 w' (.slice A' (l.length - 4) c') (l.take (l.length - 4)) ∧ NB w (.slice A' (l.length - 4) c'))) := by
  subst hn
  simp only [maxLen] at hm
  rcases Nat.lt_or_ge l.length 4 with h4 | h4
  · refine (unwrap_few A l.length c w h4).mono ?_
    rintro e w' ⟨rfl, k⟩
    exact ⟨k, .inl ⟨.inl h4, rfl⟩⟩
  · obtain ⟨k, hk⟩ : ∃ k, l.length = k + 4 := ⟨l.length - 4, by omega⟩
    have e4 : l.length - 4 = k := by omega
    rw [e4, hk]
    refine (unwrap_full A l k c _ _ w (by omega) (by omega) (by omega) (by omega) ht w.heap.size hr (Nat.le_refl _) rfl rfl).mono ?_
    rintro e w' ⟨kk, ⟨hy, A', c', rfl, ho, hv⟩ | ⟨hy, rfl⟩⟩
    · exact ⟨kk, .inr ⟨by rintro (h | h); omega; exact h hy, A', c', rfl, ho, hv⟩⟩
    · exact ⟨kk, .inl ⟨.inr hy, rfl⟩⟩

theorem tkL_front {n : Nat} {l r : List UInt8} (h : l.length = n) : tkL n (l ++ r) false = l := by
  unfold tkL
  rw [if_neg (by simp; omega), ← h, List.take_left]
theorem tk_front {n : Nat} {l r : List UInt8} (h : l.length = n) : tk n (l ++ r, false) = (r, false) := by
  unfold tk tkR tkB
  simp only
  rw [if_neg (by simp; omega), if_neg (by simp; omega), ← h, List.drop_left]
theorem cnt_front {n : Nat} {most : Int} {r : List UInt8} (hn : n < 4294967296) (hm : (n : Int) ≤ most) : cntV most (be n 4 ++ r, false) = n ∧ cntS most (be n 4 ++ r, false) = (r, false) := by
  have h1 : tkL 4 (be n 4 ++ r) false = be n 4 := tkL_front (be_length n 4)
  have h2 : tk 4 (be n 4 ++ r, false) = (r, false) := tk_front (be_length n 4)
  have hb : ¬ cntBad most (be n 4 ++ r, false) := by
    unfold cntBad
    simp only
    rw [h1, h2, num_be4 n hn]
    rintro (h | h)
    · cases h
    · omega
  unfold cntV cntS
  rw [if_neg hb, if_neg hb]
  simp only
  rw [h1, h2, num_be4 n hn]
  exact ⟨rfl, rfl⟩
theorem by_front {most : Int} {l r : List UInt8} (hl : l.length < 4294967296) (hm : (l.length : Int) ≤ most) : byV most (tx l ++ r, false) = l ∧ byS most (tx l ++ r, false) = (r, false) := by
  unfold tx
  rw [List.append_assoc]
  obtain ⟨h1, h2⟩ := cnt_front (most := most) (r := l ++ r) hl hm
  unfold byV byS
  rw [h1, h2]
  exact ⟨tkL_front rfl, tk_front rfl⟩
theorem asInt_u64 {z : Int} (h : -9223372036854775808 ≤ z ∧ z ≤ 9223372036854775807) : asInt64 (u64 z) = z := by
  unfold asInt64
  rw [← IntWalk.i64_left, IntKind.wrap_i64]
  unfold u64
  omega
theorem int_front {z : Int} {r : List UInt8} (h : -9223372036854775808 ≤ z ∧ z ≤ 9223372036854775807) : asInt64 (num (tkL 8 (be (u64 z) 8 ++ r) false)) = z ∧ tk 8 (be (u64 z) 8 ++ r, false) = (r, false) := by
  rw [tkL_front (be_length _ 8), num_be8 _ (u64_lt z), asInt_u64 h]
  exact ⟨rfl, tk_front (be_length _ 8)⟩
end Go.Proofs.YtlkiaghpdjbfeaaDoor

namespace Go.Proofs.YtlkiaghpdjbfeaaDoor
open Go.RowKit

/-- 'string(b)', of bytes that are read. -/
theorem string_any {w : World} {B : Nat} {A : Option Addr} {l : Txt} (c : Nat) (h : Rd w B A l) : (convert 26 9 (.slice A l.length c)).run Tryd.prog w = .ok (.string (ba l)) w := by
  rcases l with _ | ⟨b, l⟩
  · rw [run_convert_bytes_string w 26 9 5 A _ c Tryd.underlying26 Tryd.underlying5 Tryd.underlying9]
    cases A <;> simp [Conv.bytesToString, loadCells] <;> rfl
  · obtain ⟨a, rfl, _⟩ := h.some_of (Nat.succ_pos _)
    exact run_convert_bytes_back w 26 9 5 a c (b :: l) Tryd.underlying26 Tryd.underlying5 Tryd.underlying9 fun _ hj => h.at_ hj

/-- The call that is taken; what is left. -/
noncomputable def takeS : Nat → List UInt8 × Bool → List UInt8 × Bool
  | 0, s => s
  | 1, s => tk 1 s
  | 2, s => byS 300 (tk 1 s)
  | 3, s => byS 300 (byS 300 (tk 1 s))
  | 4, s => tk 8 (byS 300 (byS 300 (tk 1 s)))
  | 5, s => tk 8 (tk 8 (byS 300 (byS 300 (tk 1 s))))
  | _, s => byS 4096 (tk 8 (tk 8 (byS 300 (byS 300 (tk 1 s)))))
noncomputable def takeC (s : List UInt8 × Bool) : TCall :=
  ⟨(num (tkL 1 s.1 s.2) : Nat), byV 300 (takeS 1 s), byV 300 (takeS 2 s), asInt64 (num (tkL 8 (takeS 3 s).1 (takeS 3 s).2)), asInt64 (num (tkL 8 (takeS 4 s).1 (takeS 4 s).2)), byV 4096 (takeS 5 s)⟩
theorem takeS_len (s : List UInt8 × Bool) : ∀ k, (takeS k s).1.length ≤ s.1.length
  | 0 => Nat.le_refl _
  | 1 => tk_len _ _
  | 2 => Nat.le_trans (byS_len _ _) (tk_len _ _)
  | 3 => Nat.le_trans (byS_len _ _) (Nat.le_trans (byS_len _ _) (tk_len _ _))
  | 4 => Nat.le_trans (tk_len _ _) (Nat.le_trans (byS_len _ _) (Nat.le_trans (byS_len _ _) (tk_len _ _)))
  | 5 => Nat.le_trans (tk_len _ _) (Nat.le_trans (tk_len _ _) (Nat.le_trans (byS_len _ _) (Nat.le_trans (byS_len _ _) (tk_len _ _))))
  | _ + 6 => Nat.le_trans (byS_len _ _) (Nat.le_trans (tk_len _ _) (Nat.le_trans (tk_len _ _) (Nat.le_trans (byS_len _ _) (Nat.le_trans (byS_len _ _) (tk_len _ _)))))
/-- The cells of a call that grows, field by field. -/
structure Six (w : World) (g : Nat) (v0 v1 v2 v3 v4 v5 : Value) : Prop where
  block : w.heap[g]? = some (.cells #[v0, v1, v2, v3, v4, v5] 28)
section
variable {w w' : World} {g : Nat} {v0 v1 v2 v3 v4 v5 : Value}
theorem Six.lt (h : Six w g v0 v1 v2 v3 v4 v5) : g < w.heap.size := lt_of_block h.block
theorem Six.kept {S : Nat → Prop} (h : Six w g v0 v1 v2 v3 v4 v5) (k : Keep S w w') (hn : ¬ S g) : Six w' g v0 v1 v2 v3 v4 v5 := ⟨(k.block g h.lt hn).trans h.block⟩
theorem Six.free (h : Six w g v0 v1 v2 v3 v4 v5) (i : Nat) : w.frozen? ⟨g, i, none⟩ = false := by simp [World.frozen?, h.block]
theorem Six.set0 (h : Six w g v0 v1 v2 v3 v4 v5) (v : Value) : Six (w.setCell ⟨g, 0, none⟩ v) g v v1 v2 v3 v4 v5 := ⟨heap_setCell_same w g 0 _ _ v h.block⟩
theorem Six.set1 (h : Six w g v0 v1 v2 v3 v4 v5) (v : Value) : Six (w.setCell ⟨g, 1, none⟩ v) g v0 v v2 v3 v4 v5 := ⟨heap_setCell_same w g 1 _ _ v h.block⟩
theorem Six.set2 (h : Six w g v0 v1 v2 v3 v4 v5) (v : Value) : Six (w.setCell ⟨g, 2, none⟩ v) g v0 v1 v v3 v4 v5 := ⟨heap_setCell_same w g 2 _ _ v h.block⟩
theorem Six.set3 (h : Six w g v0 v1 v2 v3 v4 v5) (v : Value) : Six (w.setCell ⟨g, 3, none⟩ v) g v0 v1 v2 v v4 v5 := ⟨heap_setCell_same w g 3 _ _ v h.block⟩
theorem Six.set4 (h : Six w g v0 v1 v2 v3 v4 v5) (v : Value) : Six (w.setCell ⟨g, 4, none⟩ v) g v0 v1 v2 v3 v v5 := ⟨heap_setCell_same w g 4 _ _ v h.block⟩
theorem Six.set5 (h : Six w g v0 v1 v2 v3 v4 v5) (v : Value) : Six (w.setCell ⟨g, 5, none⟩ v) g v0 v1 v2 v3 v4 v := ⟨heap_setCell_same w g 5 _ _ v h.block⟩
theorem Six.cells (h : Six w g v0 v1 v2 v3 v4 v5) : w.cell? ⟨g, 0, none⟩ = some v0 ∧ w.cell? ⟨g, 1, none⟩ = some v1 ∧ w.cell? ⟨g, 2, none⟩ = some v2 ∧ w.cell? ⟨g, 3, none⟩ = some v3 ∧ w.cell? ⟨g, 4, none⟩ = some v4 ∧ w.cell? ⟨g, 5, none⟩ = some v5 := six_cells h.block
end
/-- A reader stands where another block's cell is stored. -/
theorem RdE.set {w : World} {g : Nat} {s : List UInt8 × Bool} (h : RdE w g s) {q : Nat} {cs : Array Value} {T : TypeId} (hq : w.heap[q]? = some (.cells cs T)) (hno : ∀ x ∈ cs.toList, ∀ z, x ≠ .int .u8 z) (hne : g ≠ q) (i : Nat) (v : Value) : RdE (w.setCell ⟨q, i, none⟩ v) g s := by
  obtain ⟨A, c, h⟩ := h
  refine ⟨A, c, ⟨?_, ?_, h.cap, h.nil⟩⟩
  · rw [heap_setCell_other w _ g v hne]
    exact h.block
  · have := h.rd.store hq hno i v
    rw [show (w.setCell ⟨q, i, none⟩ v).heap.size = w.heap.size by simp [World.setCell]]
    exact this

/-- A call that is being taken: the reader in g, the call in g1, the result (all noughts still) in g0. -/
structure Tk (w wr : World) (g g0 g1 : Nat) (st : List UInt8 × Bool) (v0 v1 v2 v3 v4 v5 : Value) : Prop where
  rd : RdE wr g st
  six : Six wr g1 v0 v1 v2 v3 v4 v5
  res : Six wr g0 (.int .i64 0) (.string ⟨#[]⟩) (.string ⟨#[]⟩) (.int .i64 0) (.int .i64 0) (.slice none 0 0)
  keep : Keep (fun k => k = g) w wr
  lt : g < g0 ∧ g0 < g1 ∧ w.heap.size ≤ g0
  no : ∀ x ∈ [v0, v1, v2, v3, v4, v5], ∀ z, x ≠ .int .u8 z
section
variable {w wr w' : World} {g g0 g1 : Nat} {st st' : List UInt8 × Bool} {v0 v1 v2 v3 v4 v5 : Value}
theorem Tk.kept (h : Tk w wr g g0 g1 st v0 v1 v2 v3 v4 v5) (k : Keep (fun k => k = g) wr w') (r : RdE w' g st') : Tk w w' g g0 g1 st' v0 v1 v2 v3 v4 v5 :=
  ⟨r, h.six.kept k (fun e : g1 = g => by have := h.lt; omega), h.res.kept k (fun e : g0 = g => by have := h.lt; omega), h.keep.trans k (fun _ _ h => h), h.lt, h.no⟩
theorem Tk.stored (h : Tk w wr g g0 g1 st v0 v1 v2 v3 v4 v5) (i : Nat) (v : Value) {u0 u1 u2 u3 u4 u5 : Value} (hs : Six (wr.setCell ⟨g1, i, none⟩ v) g1 u0 u1 u2 u3 u4 u5) (hn : ∀ x ∈ [u0, u1, u2, u3, u4, u5], ∀ z, x ≠ .int .u8 z) :
    Tk w (wr.setCell ⟨g1, i, none⟩ v) g g0 g1 st u0 u1 u2 u3 u4 u5 :=
  ⟨h.rd.set h.six.block (by simpa using h.no) (by have := h.lt; omega) i v, hs,
    h.res.kept ((Keep.refl (fun k => k = g1) wr).setCell (p := ⟨g1, i, none⟩) (.inr rfl) v) (fun e : g0 = g1 => by have := h.lt; omega),
    h.keep.setCell (p := ⟨g1, i, none⟩) (.inl (by have := h.lt; show _ ≤ g1; omega)) v, h.lt, hn⟩
end
theorem Tk.set0 {w wr : World} {g g0 g1 : Nat} {st : List UInt8 × Bool} {v0 v1 v2 v3 v4 v5 : Value} (h : Tk w wr g g0 g1 st v0 v1 v2 v3 v4 v5) (v : Value) (hv : ∀ z, v ≠ .int .u8 z) : Tk w (wr.setCell ⟨g1, 0, none⟩ v) g g0 g1 st v v1 v2 v3 v4 v5 :=
  h.stored 0 v (h.six.set0 v) fun x hx => by
    have := h.no
    simp only [List.mem_cons, List.not_mem_nil, or_false] at this hx
    rcases hx with rfl | rfl | rfl | rfl | rfl | rfl
    all_goals (first | exact hv | exact this _ (by simp))
theorem Tk.set1 {w wr : World} {g g0 g1 : Nat} {st : List UInt8 × Bool} {v0 v1 v2 v3 v4 v5 : Value} (h : Tk w wr g g0 g1 st v0 v1 v2 v3 v4 v5) (v : Value) (hv : ∀ z, v ≠ .int .u8 z) : Tk w (wr.setCell ⟨g1, 1, none⟩ v) g g0 g1 st v0 v v2 v3 v4 v5 :=
  h.stored 1 v (h.six.set1 v) fun x hx => by
    have := h.no
    simp only [List.mem_cons, List.not_mem_nil, or_false] at this hx
    rcases hx with rfl | rfl | rfl | rfl | rfl | rfl
    all_goals (first | exact hv | exact this _ (by simp))
theorem Tk.set2 {w wr : World} {g g0 g1 : Nat} {st : List UInt8 × Bool} {v0 v1 v2 v3 v4 v5 : Value} (h : Tk w wr g g0 g1 st v0 v1 v2 v3 v4 v5) (v : Value) (hv : ∀ z, v ≠ .int .u8 z) : Tk w (wr.setCell ⟨g1, 2, none⟩ v) g g0 g1 st v0 v1 v v3 v4 v5 :=
  h.stored 2 v (h.six.set2 v) fun x hx => by
    have := h.no
    simp only [List.mem_cons, List.not_mem_nil, or_false] at this hx
    rcases hx with rfl | rfl | rfl | rfl | rfl | rfl
    all_goals (first | exact hv | exact this _ (by simp))
theorem Tk.set3 {w wr : World} {g g0 g1 : Nat} {st : List UInt8 × Bool} {v0 v1 v2 v3 v4 v5 : Value} (h : Tk w wr g g0 g1 st v0 v1 v2 v3 v4 v5) (v : Value) (hv : ∀ z, v ≠ .int .u8 z) : Tk w (wr.setCell ⟨g1, 3, none⟩ v) g g0 g1 st v0 v1 v2 v v4 v5 :=
  h.stored 3 v (h.six.set3 v) fun x hx => by
    have := h.no
    simp only [List.mem_cons, List.not_mem_nil, or_false] at this hx
    rcases hx with rfl | rfl | rfl | rfl | rfl | rfl
    all_goals (first | exact hv | exact this _ (by simp))
theorem Tk.set4 {w wr : World} {g g0 g1 : Nat} {st : List UInt8 × Bool} {v0 v1 v2 v3 v4 v5 : Value} (h : Tk w wr g g0 g1 st v0 v1 v2 v3 v4 v5) (v : Value) (hv : ∀ z, v ≠ .int .u8 z) : Tk w (wr.setCell ⟨g1, 4, none⟩ v) g g0 g1 st v0 v1 v2 v3 v v5 :=
  h.stored 4 v (h.six.set4 v) fun x hx => by
    have := h.no
    simp only [List.mem_cons, List.not_mem_nil, or_false] at this hx
    rcases hx with rfl | rfl | rfl | rfl | rfl | rfl
    all_goals (first | exact hv | exact this _ (by simp))
theorem Tk.set5 {w wr : World} {g g0 g1 : Nat} {st : List UInt8 × Bool} {v0 v1 v2 v3 v4 v5 : Value} (h : Tk w wr g g0 g1 st v0 v1 v2 v3 v4 v5) (v : Value) (hv : ∀ z, v ≠ .int .u8 z) : Tk w (wr.setCell ⟨g1, 5, none⟩ v) g g0 g1 st v0 v1 v2 v3 v4 v :=
  h.stored 5 v (h.six.set5 v) fun x hx => by
    have := h.no
    simp only [List.mem_cons, List.not_mem_nil, or_false] at this hx
    rcases hx with rfl | rfl | rfl | rfl | rfl | rfl
    all_goals (first | exact hv | exact this _ (by simp))
theorem six_outs {w wr : World} {g g0 g1 : Nat} {st : List UInt8 × Bool} {v0 v1 v2 v3 v4 v5 : Value} (h : Tk w wr g g0 g1 st v0 v1 v2 v3 v4 v5) :
    RdE ((((((wr.setCell ⟨g0, 0, none⟩ v0).setCell ⟨g0, 1, none⟩ v1).setCell ⟨g0, 2, none⟩ v2).setCell ⟨g0, 3, none⟩ v3).setCell ⟨g0, 4, none⟩ v4).setCell ⟨g0, 5, none⟩ v5) g st ∧
    Six ((((((wr.setCell ⟨g0, 0, none⟩ v0).setCell ⟨g0, 1, none⟩ v1).setCell ⟨g0, 2, none⟩ v2).setCell ⟨g0, 3, none⟩ v3).setCell ⟨g0, 4, none⟩ v4).setCell ⟨g0, 5, none⟩ v5) g0 v0 v1 v2 v3 v4 v5 ∧
    Keep (fun k => k = g) w ((((((wr.setCell ⟨g0, 0, none⟩ v0).setCell ⟨g0, 1, none⟩ v1).setCell ⟨g0, 2, none⟩ v2).setCell ⟨g0, 3, none⟩ v3).setCell ⟨g0, 4, none⟩ v4).setCell ⟨g0, 5, none⟩ v5) ∧
    (∀ B A l, Rd wr B A l → Rd ((((((wr.setCell ⟨g0, 0, none⟩ v0).setCell ⟨g0, 1, none⟩ v1).setCell ⟨g0, 2, none⟩ v2).setCell ⟨g0, 3, none⟩ v3).setCell ⟨g0, 4, none⟩ v4).setCell ⟨g0, 5, none⟩ v5) B A l) := by
  have hlt := h.lt
  have hno := h.no
  simp only [List.mem_cons, List.not_mem_nil, or_false] at hno
  have n0 := hno v0 (.inl rfl)
  have n1 := hno v1 (.inr (.inl rfl))
  have n2 := hno v2 (.inr (.inr (.inl rfl)))
  have n3 := hno v3 (.inr (.inr (.inr (.inl rfl))))
  have n4 := hno v4 (.inr (.inr (.inr (.inr (.inl rfl)))))
  have hg : g ≠ g0 := by omega
  have S0 := h.res
  have S1 := S0.set0 v0
  have S2 := S1.set1 v1
  have S3 := S2.set2 v2
  have S4 := S3.set3 v3
  have S5 := S4.set4 v4
  have S6 := S5.set5 v5
  have b0 : ∀ x ∈ [Value.int .i64 0, Value.string ⟨#[]⟩, Value.string ⟨#[]⟩, Value.int .i64 0, Value.int .i64 0, Value.slice none 0 0], ∀ z, x ≠ Value.int .u8 z := by intro x hx z he; subst he; simp only [List.mem_cons, List.not_mem_nil, or_false] at hx; rcases hx with hx | hx | hx | hx | hx | hx;  all_goals cases hx
  have b1 : ∀ x ∈ [v0, Value.string ⟨#[]⟩, Value.string ⟨#[]⟩, Value.int .i64 0, Value.int .i64 0, Value.slice none 0 0], ∀ z, x ≠ Value.int .u8 z := by intro x hx z he; subst he; simp only [List.mem_cons, List.not_mem_nil, or_false] at hx; rcases hx with hx | hx | hx | hx | hx | hx; exact n0 _ hx.symm; all_goals cases hx
  have b2 : ∀ x ∈ [v0, v1, Value.string ⟨#[]⟩, Value.int .i64 0, Value.int .i64 0, Value.slice none 0 0], ∀ z, x ≠ Value.int .u8 z := by intro x hx z he; subst he; simp only [List.mem_cons, List.not_mem_nil, or_false] at hx; rcases hx with hx | hx | hx | hx | hx | hx; exact n0 _ hx.symm; exact n1 _ hx.symm; all_goals cases hx
  have b3 : ∀ x ∈ [v0, v1, v2, Value.int .i64 0, Value.int .i64 0, Value.slice none 0 0], ∀ z, x ≠ Value.int .u8 z := by intro x hx z he; subst he; simp only [List.mem_cons, List.not_mem_nil, or_false] at hx; rcases hx with hx | hx | hx | hx | hx | hx; exact n0 _ hx.symm; exact n1 _ hx.symm; exact n2 _ hx.symm; all_goals cases hx
  have b4 : ∀ x ∈ [v0, v1, v2, v3, Value.int .i64 0, Value.slice none 0 0], ∀ z, x ≠ Value.int .u8 z := by intro x hx z he; subst he; simp only [List.mem_cons, List.not_mem_nil, or_false] at hx; rcases hx with hx | hx | hx | hx | hx | hx; exact n0 _ hx.symm; exact n1 _ hx.symm; exact n2 _ hx.symm; exact n3 _ hx.symm; all_goals cases hx
  have b5 : ∀ x ∈ [v0, v1, v2, v3, v4, Value.slice none 0 0], ∀ z, x ≠ Value.int .u8 z := by intro x hx z he; subst he; simp only [List.mem_cons, List.not_mem_nil, or_false] at hx; rcases hx with hx | hx | hx | hx | hx | hx; exact n0 _ hx.symm; exact n1 _ hx.symm; exact n2 _ hx.symm; exact n3 _ hx.symm; exact n4 _ hx.symm; all_goals cases hx
  have r0 := h.rd.set S0.block b0 hg 0 v0
  have r1 := r0.set S1.block b1 hg 1 v1
  have r2 := r1.set S2.block b2 hg 2 v2
  have r3 := r2.set S3.block b3 hg 3 v3
  have r4 := r3.set S4.block b4 hg 4 v4
  have r5 := r4.set S5.block b5 hg 5 v5
  have hp : w.heap.size ≤ g0 := hlt.2.2
  exact ⟨r5, S6, (((((h.keep.setCell (p := ⟨g0, 0, none⟩) (.inl hp) v0).setCell (p := ⟨g0, 1, none⟩) (.inl hp) v1).setCell (p := ⟨g0, 2, none⟩) (.inl hp) v2).setCell (p := ⟨g0, 3, none⟩) (.inl hp) v3).setCell (p := ⟨g0, 4, none⟩) (.inl hp) v4).setCell (p := ⟨g0, 5, none⟩) (.inl hp) v5,
    fun B A l hr => (((((hr.store S0.block b0 0 v0).store S1.block b1 1 v1).store S2.block b2 2 v2).store S3.block b3 3 v3).store S4.block b4 4 v4).store S5.block b5 5 v5⟩

set_option maxRecDepth 100000 in
set_option maxHeartbeats 2000000 in
theorem take_any_call (g : Nat) (s : List UInt8 × Bool) (w : World) (h : RdE w g s) (hb : s.1.length ≤ 70368744177664) :
    Calls Tryd.prog 26 #[.pointer (some ⟨g, 0, none⟩)] w fun e w' => ∃ A c, e = .returned (.agg #[.int .i64 (takeC s).kind, .string (ba (takeC s).path), .string (ba (takeC s).other), .int .i64 (takeC s).off, .int .i64 (takeC s).n, .slice A (takeC s).data.length c]) ∧
      Rd w' w'.heap.size A (takeC s).data ∧ RdE w' g (takeS 6 s) ∧ Keep (fun k => k = g) w w' := by
  have hglt := h.lt
  obtain ⟨w1, hw1⟩ : ∃ w1, w.alloc (.cells #[.int .i64 0, .string ⟨#[]⟩, .string ⟨#[]⟩, .int .i64 0, .int .i64 0, .slice none 0 0] 28) = w1 := ⟨_, rfl⟩
  obtain ⟨w2, hw2⟩ : ∃ w2, w1.alloc (.cells #[.int .i64 0, .string ⟨#[]⟩, .string ⟨#[]⟩, .int .i64 0, .int .i64 0, .slice none 0 0] 28) = w2 := ⟨_, rfl⟩
  obtain ⟨g0, hg0⟩ : ∃ g0, w.heap.size = g0 := ⟨_, rfl⟩
  obtain ⟨g1, hg1⟩ : ∃ g1, w1.heap.size = g1 := ⟨_, rfl⟩
  have s1 : w1.heap.size = w.heap.size + 1 := by rw [← hw1]; simp
  have k01 : KF w w1 := by rw [← hw1]; exact (KF.refl _).alloc _
  have k12 : KF w1 w2 := by rw [← hw2]; exact (KF.refl _).alloc _
  have k02 := KF.trans k01 k12
  have Q0 : Six w1 g0 (.int .i64 0) (.string ⟨#[]⟩) (.string ⟨#[]⟩) (.int .i64 0) (.int .i64 0) (.slice none 0 0) := ⟨by rw [← hw1, ← hg0]; exact heap_alloc_new w _⟩
  have T2 : Tk w w2 g g0 g1 s (.int .i64 0) (.string ⟨#[]⟩) (.string ⟨#[]⟩) (.int .i64 0) (.int .i64 0) (.slice none 0 0) :=
    ⟨h.kept k02, ⟨by rw [← hw2, ← hg1]; exact heap_alloc_new w1 _⟩, Q0.kept k12 (fun h => h), Keep.mono k02 (fun _ _ h => h.elim), ⟨by omega, by omega, by omega⟩, by simp⟩
  have HW1 := Lib.hid hw1
  have HW2 := Lib.hid hw2
  have HG0 := Lib.hid hg0
  have HG1 := Lib.hid hg1
  have l1 := takeS_len s 1
  have l2 := takeS_len s 2
  have l3 := takeS_len s 3
  have l4 := takeS_len s 4
  have l5 := takeS_len s 5
  clear Q0 k01 k12 hw1 hw2 hg0 hg1 s1 h k02
  have C1 := Lib.hid (byte_e g s w2 T2.rd hb)
  go_enter Tryd.func26, Tryd.ntmps26
  go_upto_region 1 with fail
  rw [HW1.out, HG0.out]
  go_upto_region 2 with fail
  rw [HW2.out, HG1.out]
  clear HW1 HW2 HG0 HG1
  go_wp2_with fail
  refine C1.out.mono ?_
  rintro e w3 ⟨rfl, R3, k3⟩
  have hx : num (tkL 1 s.1 s.2) < 256 := by
    have hlt := num_lt (tkL 1 s.1 s.2)
    have : 256 ^ (tkL 1 s.1 s.2).length ≤ 256 ^ 1 := Nat.pow_le_pow_right (by omega) (tkL_le 1 s.1 s.2)
    omega
  have z0 : wrap64 ((num (tkL 1 s.1 s.2) : Nat) : Int) = ((num (tkL 1 s.1 s.2) : Nat) : Int) := IntWalk.wrap64_in _ ⟨by omega, by omega⟩
  have T3 := T2.kept k3 (st' := takeS 1 s) R3
  have T3' := T3.set0 (.int .i64 ((num (tkL 1 s.1 s.2) : Nat) : Int)) (by simp)
  obtain ⟨p0, p1, p2, p3, p4, p5⟩ := T3.six.cells
  have pf := T3.six.free 0
  have C2 := Lib.hid (by_e g (takeS 1 s) 300 _ T3'.rd (by omega))
  clear C1 R3 k3 T2 T3
  have HK : Hid ((takeC s).kind = ((num (tkL 1 s.1 s.2) : Nat) : Int)) := Lib.hid rfl
  generalize num (tkL 1 s.1 s.2) = kv at *
  go_wp2_with fail
  refine C2.out.mono ?_
  rintro e w4 ⟨A4, c4, rfl, r4, _, R4, k4⟩
  have T4 := T3'.kept k4 (st' := takeS 2 s) R4
  have cv4 := string_any c4 r4
  have HP : Hid ((takeC s).path = byV 300 (takeS 1 s)) := Lib.hid rfl
  generalize byV 300 (takeS 1 s) = pv at *
  have T4' := T4.set1 (.string (ba pv)) (by simp)
  clear p0 p1 p2 p3 p4 p5 pf C2 R4 k4 T3' z0
  obtain ⟨p0, p1, p2, p3, p4, p5⟩ := T4.six.cells
  have pf := T4.six.free 1
  have C3 := Lib.hid (by_e g (takeS 2 s) 300 _ T4'.rd (by omega))
  clear T4
  go_wp2_with fail
  refine C3.out.mono ?_
  rintro e w5 ⟨A5, c5, rfl, r5, _, R5, k5⟩
  have T5 := T4'.kept k5 (st' := takeS 3 s) R5
  have cv5 := string_any c5 r5
  have HO : Hid ((takeC s).other = byV 300 (takeS 2 s)) := Lib.hid rfl
  generalize byV 300 (takeS 2 s) = ov at *
  have T5' := T5.set2 (.string (ba ov)) (by simp)
  clear p0 p1 p2 p3 p4 p5 pf C3 R5 k5 T4' cv4 r4
  obtain ⟨p0, p1, p2, p3, p4, p5⟩ := T5.six.cells
  have pf := T5.six.free 2
  have C4 := Lib.hid (int_e g (takeS 3 s) _ T5'.rd (by omega))
  clear T5
  go_wp2_with fail
  refine C4.out.mono ?_
  rintro e w6 ⟨rfl, R6, k6⟩
  have T6 := T5'.kept k6 (st' := takeS 4 s) R6
  have HF : Hid ((takeC s).off = asInt64 (num (tkL 8 (takeS 3 s).1 (takeS 3 s).2))) := Lib.hid rfl
  generalize asInt64 (num (tkL 8 (takeS 3 s).1 (takeS 3 s).2)) = fv at *
  have T6' := T6.set3 (.int .i64 fv) (by simp)
  clear p0 p1 p2 p3 p4 p5 pf C4 R6 k6 T5' cv5 r5
  obtain ⟨p0, p1, p2, p3, p4, p5⟩ := T6.six.cells
  have pf := T6.six.free 3
  have C5 := Lib.hid (int_e g (takeS 4 s) _ T6'.rd (by omega))
  clear T6
  go_wp2_with fail
  refine C5.out.mono ?_
  rintro e w7 ⟨rfl, R7, k7⟩
  have T7 := T6'.kept k7 (st' := takeS 5 s) R7
  have HNN : Hid ((takeC s).n = asInt64 (num (tkL 8 (takeS 4 s).1 (takeS 4 s).2))) := Lib.hid rfl
  generalize asInt64 (num (tkL 8 (takeS 4 s).1 (takeS 4 s).2)) = nv at *
  have T7' := T7.set4 (.int .i64 nv) (by simp)
  clear p0 p1 p2 p3 p4 p5 pf C5 R7 k7 T6'
  obtain ⟨p0, p1, p2, p3, p4, p5⟩ := T7.six.cells
  have pf := T7.six.free 4
  have C6 := Lib.hid (by_e g (takeS 5 s) 4096 _ T7'.rd (by omega))
  clear T7
  go_wp2_with fail
  refine C6.out.mono ?_
  rintro e w8 ⟨A8, c8, rfl, r8, _, R8, k8⟩
  have T8 := T7'.kept k8 (st' := takeS 6 s) R8
  have HDD : Hid ((takeC s).data = byV 4096 (takeS 5 s)) := Lib.hid rfl
  generalize byV 4096 (takeS 5 s) = dv at *
  have T8' := T8.set5 (.slice A8 dv.length c8) (by simp)
  have r8' : Rd (w8.setCell ⟨g1, 5, none⟩ (.slice A8 dv.length c8)) w8.heap.size A8 dv := r8.store T8.six.block (by simp) 5 _
  clear p0 p1 p2 p3 p4 p5 pf C6 R8 k8 T7' r8
  obtain ⟨p0, p1, p2, p3, p4, p5⟩ := T8.six.cells
  have pf := T8.six.free 5
  obtain ⟨w9, hw9⟩ : ∃ w9, w8.setCell ⟨g1, 5, none⟩ (.slice A8 dv.length c8) = w9 := ⟨_, rfl⟩
  have hz9 : w9.heap.size = w8.heap.size := by rw [← hw9]; simp [World.setCell]
  rw [hw9] at T8' r8'
  have HW9 := Lib.hid hw9
  clear hw9
  go_upto_region 8 with fail
  rw [HW9.out]
  obtain ⟨q0, q1, q2, q3, q4, q5⟩ := T8'.six.cells
  have f0 := T8'.res.free 0
  have f1 := T8'.res.free 1
  have f2 := T8'.res.free 2
  have f3 := T8'.res.free 3
  have f4 := T8'.res.free 4
  have f5 := T8'.res.free 5
  obtain ⟨u0, u1, u2, u3, u4, u5⟩ := T8'.res.cells
  have hne : g0 ≠ g1 := by have := T8'.lt; omega
  have FIN := Lib.hid (six_outs T8')
  clear T8 T8' p0 p1 p2 p3 p4 p5 pf HW9
  go_wp2_with fail
  obtain ⟨e1, e2, e3, e4⟩ := FIN.out
  obtain ⟨c0, c1, c2, c3, c4', c5'⟩ := e2.cells
  have hr := e4 _ _ _ r8'
  have hsz : w8.heap.size ≤ ((((((w9.setCell ⟨g0, 0, none⟩ (.int .i64 (kv : Int))).setCell ⟨g0, 1, none⟩ (.string (ba pv))).setCell ⟨g0, 2, none⟩ (.string (ba ov))).setCell ⟨g0, 3, none⟩ (.int .i64 fv)).setCell ⟨g0, 4, none⟩ (.int .i64 nv)).setCell ⟨g0, 5, none⟩ (.slice A8 dv.length c8)).heap.size := by simp only [World.setCell, Array.size_modify]; omega
  clear FIN r8' e4 e2
  refine bodyPost_ret (v := .agg #[.int .i64 (kv : Int), .string (ba pv), .string (ba ov), .int .i64 fv, .int .i64 nv, .slice A8 dv.length c8]) (by simp [results, Tryd.results26, go_sem, c0, c1, c2, c3, c4', c5']) rfl ?_
  exact ⟨A8, c8, by rw [HK.out, HP.out, HO.out, HF.out, HNN.out, HDD.out], by rw [HDD.out]; exact hr.more hsz, e1, e3⟩
end Go.Proofs.YtlkiaghpdjbfeaaDoor

namespace Go.Proofs.YtlkiaghpdjbfeaaDoor
open Go.RowKit

theorem valid_any (r : Int) (w : World) : Calls Tryd.prog 97 #[.int .i32 r] w fun e w' => e = .returned (.bool (validRune r)) ∧ w = w' := by
  go_enter Tryd.func97, Tryd.ntmps97
  go_wp2
  all_goals (go_ret; refine ⟨?_, rfl⟩; congr 2; unfold validRune; show Value.bool _ = Value.bool _; congr 1; first | (symm; apply decide_eq_true; omega) | (symm; apply decide_eq_false; omega))

set_option maxRecDepth 100000 in
theorem rune_far (r : Int) (w : World) (h0 : 128 ≤ r) :
    Calls Tryd.prog 87 #[.string ⟨#[47, 0]⟩, .int .i32 r] w fun e w' => e = .returned (.int .i64 (-1)) ∧ KF w w' := by
  have g1 : decide (r < 128) = false := decide_eq_false (by omega)
  have g0 : decide (0 ≤ r) = true := decide_eq_true (by omega)
  by_cases he : r = 65533
  · subst he
    have g2 : ((65533:Int) == 65533) = true := rfl
    go_enter Tryd.func87, Tryd.ntmps87
    go_wp2_with fail
    go_loopg [5, 6] 2 (fun g _ _ wx => ∃ i : Nat, i + g = 2 ∧ wx = w.iter ⟨#[47, 0]⟩ i)
    case atStart => exact ⟨0, rfl, rfl⟩
    case round =>
      obtain ⟨i, hi, rfl⟩ := hrel
      have h47 := fun ty => run_next_ascii (P := Tryd.prog) w ⟨#[47, 0]⟩ 0 ty (by decide) (by decide)
      have h00 := fun ty => run_next_ascii (P := Tryd.prog) w ⟨#[47, 0]⟩ 1 ty (by decide) (by decide)
      rcases gk with _ | _ | _ | gk
      · obtain rfl : i = 2 := by omega
        have hend := fun ty => run_next_end (P := Tryd.prog) w ⟨#[47, 0]⟩ 2 ty (by decide)
        go_wp2_with fail
        go_ret
        exact ⟨rfl, KF.of_below ((Below.refl _ _).alloc (Nat.le_refl _) _)⟩
      · obtain rfl : i = 1 := by omega
        go_wp2_with fail
        all_goals try (exfalso; revert ‹(_ == (65533:Int)) = true›; decide)
        go_roundg 0
        case measure => omega
        case rel => exact ⟨2, rfl, rfl⟩
      · obtain rfl : i = 0 := by omega
        go_wp2_with fail
        all_goals try (exfalso; revert ‹(_ == (65533:Int)) = true›; decide)
        go_roundg 1
        case measure => omega
        case rel => exact ⟨1, rfl, rfl⟩
      · omega
  · have g2 : (r == 65533) = false := by simp [he]
    cases hv : validRune r with
    | false =>
      have hV := valid_any r
      rw [hv] at hV
      go_enter Tryd.func87, Tryd.ntmps87
      go_wp2_with fail
      refine (hV _).mono ?_
      rintro e w1 ⟨rfl, rfl⟩
      go_wp2_with fail
      go_ret
      exact ⟨rfl, KF.refl _⟩
    | true =>
      have hV := valid_any r
      rw [hv] at hV
      have hu := hv
      rw [← validRune_eq] at hu
      obtain ⟨e2, e4, el⟩ := encode_facts r hu h0
      have hcv := fun w => run_convert_int_string (P := Tryd.prog) w 21 9 .i32 r (by kernel_rfl) Tryd.underlying9
      generalize Utf8.encode r = E at e2 e4 el hcv
      go_enter Tryd.func87, Tryd.ntmps87
      go_wp2_with fail
      refine (hV _).mono ?_
      rintro e w1 ⟨rfl, rfl⟩
      go_wp2_with fail
      go_step3
      rcases Nat.lt_or_ge 2 E.size with h3 | h2
      · have q1 : decide (((E.size : Int) - 1) < 2) = false := decide_eq_false (by omega)
        go_wp2_with fail
        go_loopg [9] 0 (fun _ s9 wx => s9 = .int .i64 ((E.size : Int) - 1) ∧ wx = w)
        case atStart => exact ⟨rfl, rfl⟩
        case round =>
          obtain ⟨rfl, rfl⟩ := hrel
          go_wp2_with fail
          rw [Exit.noGoto_ret]
          go_ret
          exact ⟨rfl, KF.refl _⟩
      · obtain ⟨a, b, rfl, hb⟩ : ∃ a b : UInt8, E = ⟨#[a, b]⟩ ∧ 128 ≤ b.toNat := by
          obtain ⟨⟨l⟩⟩ := E
          match l, e2, h2, el with
          | [a, b], _, _, el => exact ⟨a, b, rfl, el (Nat.lt_succ_self 1)⟩
          | [], h, _, _ => exact absurd h (by decide)
          | [_], h, _, _ => exact absurd h (by simp [ByteArray.size])
          | _ :: _ :: _ :: _, _, h, _ => exact absurd h (by simp [ByteArray.size])
        clear e2 h2 e4 el
        go_wp2_with fail
        go_loopg [9] 0 (fun _ s9 wx => s9 = .int .i64 1 ∧ wx = w)
        case atStart => exact ⟨rfl, rfl⟩
        case round =>
          obtain ⟨rfl, rfl⟩ := hrel
          have nb : ((0:Int) != (b.toNat : Int)) = true := by rw [bne_iff_ne]; omega
          have hIB := fun n => Tryd.strings_IndexByte ⟨#[]⟩ (b.toNat : Int) (wr.drewN n)
          have hI0 : Lib.indexByte (ByteArray.mk #[]).data.toList ((b.toNat : Int)).toNat.toUInt8 = -1 := rfl
          rw [hI0] at hIB
          go_wp2
          go_step3
          go_wp2
          go_quiet (fail)
          go_wp2
          · go_quiet ((go_at_call 96; exact (hIB _).mono fun _ _ ⟨he, hw⟩ => ⟨he, _, hw⟩))
            go_wp2
            show Exit.noGoto _ Exit.ret _ _
            simp only [Exit.noGoto_ret, Exit.inBlock, Exit.then]
            go_ret
            exact ⟨rfl, (KF.refl _).drewN _⟩
          · exfalso
            have h : ((0:Int) != (b.toNat : Int)) = false := by assumption
            rw [nb] at h
            cases h
end Go.Proofs.YtlkiaghpdjbfeaaDoor

namespace Go.Proofs.YtlkiaghpdjbfeaaDoor
open Go.RowKit Go.Lib

/-- Has a text a sign that no name has? -/
def hasBad (l : Txt) : Bool := l.any fun b => b == 47 || b == 0
theorem hasBad_false {l : Txt} : hasBad l = false ↔ ∀ b ∈ l, b ≠ 47 ∧ b ≠ 0 := by
  simp [hasBad]
theorem contains_two (b : UInt8) : ([47, 0] : List UInt8).contains b = (b == 47 || b == 0) := by
  rw [List.contains_cons, List.contains_cons, List.contains_nil, Bool.or_false]
theorem indexAny_bad (l : Txt) : decide (0 ≤ Lib.indexAny l [47, 0]) = hasBad l := by
  induction l with
  | nil => rfl
  | cons b l ih =>
    have hge := Lib.indexAny_ge [47, 0] l
    unfold Lib.indexAny
    have hc : ([47, 0] : List UInt8).contains b = (b == 47 || b == 0) := contains_two b
    rw [hc]
    unfold hasBad at ih ⊢
    rw [List.any_cons]
    cases hb : (b == 47 || b == 0)
    · simp only [Bool.false_eq_true, if_false, Bool.false_or]
      rw [← ih]
      split
      · next h => rw [beq_iff_eq] at h; rw [h]
      · next h => rw [beq_iff_eq] at h; congr 1; exact propext ⟨fun _ => by omega, fun _ => by omega⟩
    · simp

/-- All that a sign beyond ASCII is of lies beyond ASCII. -/
theorem decode_wide (s : ByteArray) (i : Nat) (hi : i < s.size) (h : 128 ≤ (s.get! i).toNat) : ∀ k, i ≤ k → k < i + (Utf8.decode s i).2 → k < s.size ∧ 128 ≤ (s.get! k).toNat := by
  intro k hk hk'
  rw [decode_at] at hk'
  unfold decodeN at hk'
  have cases4 : ∀ n, k < i + n → n ≤ 4 → k = i ∨ (k = i + 1 ∧ 2 ≤ n) ∨ (k = i + 2 ∧ 3 ≤ n) ∨ (k = i + 3 ∧ 4 ≤ n) := fun n _ _ => by omega
  split at hk'
  · omega
  · split at hk'
    · next hc =>
      split at hk'
      · rcases cases4 2 hk' (by omega) with rfl | ⟨rfl, _⟩ | ⟨rfl, _⟩ | ⟨rfl, _⟩ <;> exact ⟨by omega, by omega⟩
      · obtain rfl : k = i := by simp at hk'; omega
        exact ⟨hi, h⟩
    · split at hk'
      · next hc =>
        split at hk'
        · rcases cases4 3 hk' (by omega) with rfl | ⟨rfl, _⟩ | ⟨rfl, _⟩ | ⟨rfl, _⟩ <;> exact ⟨by omega, by omega⟩
        · obtain rfl : k = i := by simp at hk'; omega
          exact ⟨hi, h⟩
      · split at hk'
        · next hc =>
          split at hk'
          · rcases cases4 4 hk' (by omega) with rfl | ⟨rfl, _⟩ | ⟨rfl, _⟩ | ⟨rfl, _⟩ <;> exact ⟨by omega, by omega⟩
          · obtain rfl : k = i := by simp at hk'; omega
            exact ⟨hi, h⟩
        · obtain rfl : k = i := by simp at hk'; omega
          exact ⟨hi, h⟩
theorem get_list (s : ByteArray) (k : Nat) (h : k < s.size) : s.data.toList[k]? = some (s.get! k) := by
  have e : s.get! k = s[k]'h := by
    show s.get! k = _
    simp [ByteArray.get!, getElem!_pos, h]
    rfl
  rw [e]
  exact Lib.data_getElem? s k h

/-- None of the first bytes is one that no name has. -/
def Fine (s : ByteArray) (i : Nat) : Prop := ∀ k b, k < i → s.data.toList[k]? = some b → b ≠ 47 ∧ b ≠ 0
theorem Fine.all {s : ByteArray} (h : Fine s s.size) : hasBad s.data.toList = false := hasBad_false.2 fun b hb => by
  obtain ⟨k, hk, rfl⟩ := List.mem_iff_getElem.1 hb
  exact h k _ (by rw [size_len]; exact hk) (List.getElem?_eq_getElem hk)
theorem Fine.wide {s : ByteArray} {i : Nat} (h : Fine s i) (hi : i < s.size) (ha : 128 ≤ (s.get! i).toNat) : Fine s (i + (Utf8.decode s i).2) := fun k b hk hb => by
  rcases Nat.lt_or_ge k i with hlt | hge
  · exact h k b hlt hb
  · obtain ⟨hks, hk128⟩ := decode_wide s i hi ha k hge hk
    rw [get_list s k hks] at hb
    injection hb with hb
    subst hb
    constructor
    · intro e; rw [e] at hk128; exact absurd hk128 (by decide)
    · intro e; rw [e] at hk128; exact absurd hk128 (by decide)
theorem Fine.next {s : ByteArray} {i : Nat} (h : Fine s i) (hi : i < s.size) (ha : s.get! i ≠ 47 ∧ s.get! i ≠ 0) : Fine s (i + 1) := fun k b hk hb => by
  rcases Nat.lt_or_ge k i with hlt | hge
  · exact h k b hlt hb
  · obtain rfl : k = i := by omega
    rw [get_list s k hi] at hb
    injection hb with hb
    subst hb
    exact ha
theorem hasBad_hit {s : ByteArray} {i : Nat} (hi : i < s.size) (h : s.get! i = 47 ∨ s.get! i = 0) : hasBad s.data.toList = true := by
  unfold hasBad
  rw [List.any_eq_true]
  refine ⟨s.get! i, ?_, ?_⟩
  · exact List.mem_of_getElem? (get_list s i hi)
  · rcases h with h | h <;> rw [h] <;> rfl
theorem indexByte_two (x : UInt8) : decide (0 ≤ Lib.indexByte [47, 0] x) = (x == 47 || x == 0) := by
  rw [← Lib.contains_iff_indexByte, contains_two]

set_option maxRecDepth 100000 in
set_option maxHeartbeats 4000000 in
theorem any_short (s : ByteArray) (w : World) (h8 : s.size ≤ 8) :
    Calls Tryd.prog 82 #[.string s, .string ⟨#[47, 0]⟩] w fun e w' => (∃ n : Int, e = .returned (.int .i64 n) ∧ decide (0 ≤ n) = hasBad s.data.toList) ∧ KF w w' := by
  have h8z : decide ((8 : Int) < (s.size : Int)) = false := decide_eq_false (by omega)
  go_enter Tryd.func82, Tryd.ntmps82
  go_wp2_with fail
  refine (Tryd.strings_shouldUseASCIISet _ _).mono ?_
  rintro e w' ⟨rfl, rfl⟩
  rw [h8z]
  go_wp2_with fail
  go_loopg [9, 10] s.size (fun g _ _ wx => ∃ i : Nat, s.size - i ≤ g ∧ i ≤ s.size ∧ wx.heap[w'.heap.size]? = some (.stringIter s i) ∧ KF w' wx ∧ Hid (Fine s i))
  case atStart => exact ⟨0, by omega, by omega, World.iter_heap _ _ _, KF.of_below ((Below.refl _ _).alloc (Nat.le_refl _) _), Lib.hid (fun k b hk => absurd hk (Nat.not_lt_zero _))⟩
  case round =>
    obtain ⟨i, hg, hi, hit, hk, HF⟩ := hrel
    rcases Nat.lt_or_ge i s.size with hlt | hge
    · have hnx := fun ty => run_next_any_at (P := Tryd.prog) wr w'.heap.size s i ty hit hlt
      have hgi : (s[i]'hlt) = s.get! i := by
        show _ = s.get! i
        simp [ByteArray.get!, getElem!_pos, hlt]
        rfl
      have hkn := fun k => KF.of_below (below_iterAt hk.below (Nat.le_refl _) s k)
      have hitn := fun k => iterAt_heap wr w'.heap.size s i k hit
      rcases Nat.lt_or_ge (s.get! i).toNat 128 with hasc | hhigh
      · have hd := decode_ascii s i hlt (by rw [hgi]; exact hasc)
        rw [hgi] at hd
        rw [hd] at hnx
        have hx := indexByte_two (s.get! i)
        have F2 := Lib.hid (fun h => HF.out.next hlt h)
        have FB := Lib.hid (fun h => hasBad_hit hlt h)
        clear HF hd hgi hk hit
        generalize s.get! i = x at hnx hx F2 FB hasc
        have hback : ((x.toNat : Int)).toNat.toUInt8 = x := by simp
        have hR := fun w1 => Tryd.strings_IndexRune_ascii ⟨#[47, 0]⟩ (x.toNat : Int) w1 (by omega) (by omega)
        rw [hback] at hR
        have hR' : ∀ w1, Calls Tryd.prog 87 #[.string ⟨#[47, 0]⟩, .int .i32 (x.toNat : Int)] w1 fun e w' => e = .returned (.int .i64 (Lib.indexByte [47, 0] x)) ∧ w' = w1 := hR
        clear hR
        generalize Lib.indexByte [47, 0] x = n at hx hR'
        cases hb : (x == 47 || x == 0)
        · rw [hb] at hx
          go_wp2_with fail
          refine (hR' _).mono ?_
          rintro e w1 ⟨rfl, rfl⟩
          go_wp2_with fail
          go_roundg (s.size - (i + 1))
          case measure => omega
          case rel =>
            refine ⟨i + 1, by omega, by omega, hitn _, hkn _, Lib.hid (F2.out ?_)⟩
            simp at hb
            exact hb
        · rw [hb] at hx
          go_wp2_with fail
          refine (hR' _).mono ?_
          rintro e w1 ⟨rfl, rfl⟩
          go_wp2_with fail
          go_ret
          refine ⟨⟨_, rfl, ?_⟩, hkn _⟩
          rw [FB.out (by simpa using hb)]
          simp
      · have F2 := Lib.hid (HF.out.wide hlt hhigh)
        obtain ⟨d1, d2⟩ := decode_high s i hlt (by rw [hgi]; exact hhigh)
        have hle : i + (Utf8.decode s i).2 ≤ s.size := by
          have := decode_wide s i hlt hhigh (i + (Utf8.decode s i).2 - 1) (by omega) (by omega)
          omega
        generalize Utf8.decode s i = d at *
        obtain ⟨r, wd⟩ := d
        simp only at d1 d2 hle F2 hnx
        have hfar := fun w1 => rune_far (r : Int) w1 (by omega)
        have hKn := hkn (i + wd)
        have hIn := hitn (i + wd)
        clear hkn hitn HF hgi hk hit hhigh
        go_wp2_with fail
        refine (hfar _).mono ?_
        rintro e w1 ⟨rfl, k1⟩
        go_wp2_with fail
        go_roundg (s.size - (i + wd))
        case measure => omega
        case rel =>
          refine ⟨i + wd, by omega, by omega, ?_, KF.trans hKn k1, F2⟩
          exact (k1.block _ (Array.getElem?_eq_some_iff.1 hIn).1 (fun h => h)).trans hIn
    · obtain rfl : i = s.size := by omega
      have hnx := fun ty => run_next_end_at (P := Tryd.prog) wr w'.heap.size s s.size ty hit (by omega)
      go_wp2_with fail
      go_ret
      exact ⟨⟨_, rfl, by rw [HF.out.all]; rfl⟩, hk⟩

set_option maxRecDepth 100000 in
theorem setZero : ∀ w, (zeroValue 132).run Tryd.prog w = .ok (.agg (Array.replicate 256 (.bool false))) w := fun w => by
  exact Tryd.zeroValue132 w
set_option maxRecDepth 100000 in
theorem any_any (s : ByteArray) (w : World) (h16 : s.size ≤ 16) :
    Calls Tryd.prog 82 #[.string s, .string ⟨#[47, 0]⟩] w fun e w' => (∃ n : Int, e = .returned (.int .i64 n) ∧ decide (0 ≤ n) = hasBad s.data.toList) ∧ KF w w' := by
  rcases Nat.lt_or_ge 8 s.size with h | h
  · refine (Tryd.strings_IndexAny_long setZero s ⟨#[47, 0]⟩ w (by decide) h (by omega) (by decide) (fun j b hj => ?_)).mono fun e w' ⟨he, hw⟩ => ⟨⟨_, he, indexAny_bad _⟩, ?_⟩
    · have hm := List.mem_of_getElem? hj
      have : b = 47 ∨ b = 0 := by simpa using hm
      rcases this with rfl | rfl <;> decide
    · rw [hw]
      exact KF.of_below (((Below.refl _ _).alloc (Nat.le_refl _) _).alloc (by simp) _)
  · exact any_short s w h
theorem contains_any (s : ByteArray) (w : World) (h16 : s.size ≤ 16) :
    Calls Tryd.prog 76 #[.string s, .string ⟨#[47, 0]⟩] w fun e w' => e = .returned (.bool (hasBad s.data.toList)) ∧ KF w w' := by
  have C := Lib.hid (any_any s w h16)
  go_enter Tryd.func76, Tryd.ntmps76
  go_wp2_with fail
  refine C.out.mono ?_
  rintro e w1 ⟨⟨n, rfl, hn⟩, k1⟩
  have hn := Lib.hid hn
  go_wp2_with fail
  go_ret
  refine ⟨?_, k1⟩
  rw [← hn.out]
  rfl

theorem name_of {s : ByteArray} (h1 : ¬ s.toList = []) (h2 : s.toList.isEmpty = false ∧ (s.size : Int) ≤ 16) (h3 : ¬ s.toList = [46]) (h4 : ¬ s.toList = [46, 46]) : decide (IsName s.data.toList) = !hasBad s.data.toList := by
  rw [Lib.toList_data] at h1 h3 h4
  have h16 := h2.2
  rw [size_len] at h16
  cases hb : hasBad s.data.toList
  · exact decide_eq_true ⟨hasBad_false.1 hb, List.length_pos_iff.2 h1, by omega, h3, h4⟩
  · exact decide_eq_false fun hn => by
      have := hasBad_false.2 hn.1
      rw [hb] at this
      cases this
theorem returned_no {l : Txt} (h : ¬ IsName l) : Ending.returned (Value.bool false) = .returned (.bool (decide (IsName l))) := by rw [decide_eq_false h]
set_option maxRecDepth 100000 in
theorem name_any (s : ByteArray) (w : World) :
    Calls Tryd.prog 68 #[.string s] w fun e w' => e = .returned (.bool (decide (IsName s.data.toList))) ∧ KF w w' := by
  go_enter Tryd.func68, Tryd.ntmps68
  go_wp2_with fail
  · have h : s.toList = [] := by assumption
    go_ret
    rw [Lib.toList_data] at h
    exact ⟨returned_no fun hn => hn.ne h, KF.refl _⟩
  · have h : s.toList.isEmpty = true ∨ (16 : Int) < s.size := by assumption
    have h0 : ¬ s.toList = [] := by assumption
    go_ret
    refine ⟨returned_no fun hn => ?_, KF.refl _⟩
    rcases h with h | h
    · exact h0 (List.isEmpty_iff.1 h)
    · rw [size_len] at h
      have := hn.2.2.1
      omega
  · have h : s.toList = [46] := by assumption
    go_ret
    rw [Lib.toList_data] at h
    exact ⟨returned_no fun hn => hn.2.2.2.1 h, KF.refl _⟩
  · have h : s.toList = [46, 46] := by assumption
    go_ret
    rw [Lib.toList_data] at h
    exact ⟨returned_no fun hn => hn.2.2.2.2 h, KF.refl _⟩
  · have h2 : s.toList.isEmpty = false ∧ (s.size : Int) ≤ 16 := by assumption
    have hN := Lib.hid (name_of (by assumption) h2 (by assumption) (by assumption))
    have c1 : (s.toList == [46]) = false := beq_eq_false_iff_ne.2 (by assumption)
    have c2 : (s.toList == [46, 46]) = false := beq_eq_false_iff_ne.2 (by assumption)
    refine (contains_any s w (by omega)).mono ?_
    rintro e w1 ⟨rfl, k1⟩
    go_wp2_with fail
    go_ret
    refine ⟨?_, k1⟩
    rw [hN.out]
    rfl
end Go.Proofs.YtlkiaghpdjbfeaaDoor

namespace Go.Proofs.YtlkiaghpdjbfeaaDoor
open Go.RowKit

theorem wrong_name (s : ByteArray) (w : World) : Calls Tryd.prog 67 #[.string s] w fun e w' => e = .returned (.bool (!decide (IsName s.data.toList))) ∧ KF w w' := by
  have C := Lib.hid (name_any s w)
  go_enter Tryd.func67, Tryd.ntmps67
  go_wp2_with fail
  refine C.out.mono ?_
  rintro e w1 ⟨rfl, k1⟩
  go_wp2_with fail
  go_ret
  exact ⟨rfl, k1⟩

theorem World.cellAt {w : World} {B n : Nat} {A : Option Addr} {xs : List ByteArray} (h : Strs w B A xs) (hn : n < xs.length) : ∃ b o, A = some ⟨b, o, none⟩ ∧ b < B ∧ w.cell? ⟨b, o + n, none⟩ = some (.string xs[n]) := h n _ (List.getElem?_eq_getElem hn)

set_option maxRecDepth 100000 in
theorem find_wrong (A : Option Addr) (xs : List ByteArray) (n c : Nat) (w : World) (hn : n = xs.length) (hb : n ≤ 1000000) (h : Strs w w.heap.size A xs) :
    Calls Tryd.prog 77 #[.slice A n c, .func (.func 67) #[] #[]] w fun e w' =>
      (∃ z : Int, e = .returned (.int .i64 z) ∧ decide (0 ≤ z) = !decide (∀ x ∈ xs, IsName x.data.toList)) ∧ KF w w' := by
  have HS := Lib.hid h
  clear h
  have HN := Lib.hid hn
  clear hn
  go_enter Tryd.func77, Tryd.ntmps77
  go_wp2_with fail
  go_loopg [5, 8] n (fun g _ i wr => ∃ k : Nat, k ≤ n ∧ n - k ≤ g ∧ i = .int .i64 k ∧ KF w wr ∧ Hid (∀ j, j < k → ∀ x, xs[j]? = some x → IsName x.data.toList))
  case atStart => exact ⟨0, by omega, by omega, rfl, KF.refl _, Lib.hid fun j hj => absurd hj (Nat.not_lt_zero _)⟩
  case round =>
    obtain ⟨k, hk, hg, rfl, kf, HA⟩ := hrel
    rcases Nat.lt_or_ge k n with hlt | hge
    · have hlt' : (k : Int) < (n : Int) := by omega
      have hkx : k < xs.length := by rw [← HN.out]; exact hlt
      obtain ⟨b, o, rfl, hbb, hc⟩ := World.cellAt (HS.out.kept kf) hkx
      have HX := Lib.hid (List.getElem?_eq_getElem hkx)
      generalize xs[k] = x at hc HX
      have HW := Lib.hid (wrong_name x)
      by_cases hname : IsName x.data.toList
      · rw [decide_eq_true hname] at HW
        go_wp2_with fail
        refine (HW.out wr).mono ?_
        rintro e w1 ⟨rfl, k1⟩
        go_wp2_with fail
        go_roundg (n - (k + 1))
        case measure => omega
        case rel =>
          refine ⟨k + 1, by omega, by omega, by go_num, kf.trans k1, Lib.hid fun j hj y hy => ?_⟩
          rcases Nat.lt_or_ge j k with h | h
          · exact HA.out j h y hy
          · obtain rfl : j = k := by omega
            rw [HX.out] at hy
            injection hy with hy
            subst hy
            exact hname
      · rw [decide_eq_false hname] at HW
        go_wp2_with fail
        refine (HW.out wr).mono ?_
        rintro e w1 ⟨rfl, k1⟩
        go_wp2_with fail
        go_ret
        refine ⟨⟨_, rfl, ?_⟩, kf.trans k1⟩
        have hno : decide (∀ x ∈ xs, IsName x.data.toList) = false := decide_eq_false fun h => hname (h x (List.mem_of_getElem? HX.out))
        rw [hno]
        exact decide_eq_true (by omega)
    · obtain rfl : k = n := by omega
      have hlt' : ¬ (k : Int) < (k : Int) := by omega
      go_wp2_with fail
      go_ret
      refine ⟨⟨_, rfl, ?_⟩, kf⟩
      have : ∀ x ∈ xs, IsName x.data.toList := fun x hx => by
        obtain ⟨j, hj, rfl⟩ := List.mem_iff_getElem.1 hx
        exact HA.out j (by rw [HN.out]; exact hj) _ (List.getElem?_eq_getElem hj)
      rw [decide_eq_true this]
      rfl

theorem has_wrong (A : Option Addr) (xs : List ByteArray) (n c : Nat) (w : World) (hn : n = xs.length) (hb : n ≤ 1000000) (h : Strs w w.heap.size A xs) :
    Calls Tryd.prog 69 #[.slice A n c, .func (.func 67) #[] #[]] w fun e w' =>
      e = .returned (.bool (!decide (∀ x ∈ xs, IsName x.data.toList))) ∧ KF w w' := by
  have C := Lib.hid (find_wrong A xs n c w hn hb h)
  clear h hn
  go_enter Tryd.func69, Tryd.ntmps69
  go_wp2_with fail
  refine C.out.mono ?_
  rintro e w1 ⟨⟨z, rfl, hz⟩, k1⟩
  have HZ := Lib.hid hz
  clear hz
  go_wp2_with fail
  go_ret
  refine ⟨?_, k1⟩
  rw [← HZ.out]
  rfl

/-- What a package-level variable of Go's library holds matters to none of these calls; but it holds a number. -/
def Env (w : World) : Prop := ∃ m : Int, w.cell? ⟨1, 0, none⟩ = some (.int .i64 m)
theorem Env.kept {w w' : World} (h : Env w) (k : KF w w') : Env w' := by
  obtain ⟨m, hm⟩ := h
  exact ⟨m, (k.cell (World.block_lt_of_cell? _ _ hm)).trans hm⟩

/-- The row that strings.SplitN lays. -/
theorem Strs.laid (w : World) (xs : List ByteArray) (N : Nat) (t : TypeId) : Strs (w.alloc (.cells (Lib.cellsOf xs N) t)) (w.heap.size + 1) (some ⟨w.heap.size, 0, none⟩) xs := fun j x hj => by
  refine ⟨_, _, rfl, by omega, ?_⟩
  rw [Nat.zero_add, World.cell?_alloc_mark]
  have hlt : j < xs.length := by
    rcases Nat.lt_or_ge j xs.length with h | h
    · exact h
    · rw [List.getElem?_eq_none h] at hj; cases hj
  simp only [Lib.cellsOf, List.getElem?_toArray]
  rw [List.getElem?_append_left (by simpa using hlt), List.getElem?_map, hj]
  rfl
/-- What strings.SplitN gives, as lists. -/
theorem splitB_lists (k : Nat) (s : ByteArray) : Lib.splitB ⟨#[47]⟩ 0 k s = (Lib.splitK [47] 0 k s.data.toList).map ba := by
  have := Lib.splitB_data ⟨#[47]⟩ 0 k s
  have h2 := congrArg (List.map ba) this
  rw [List.map_map] at h2
  have e : (ba ∘ fun x : ByteArray => x.data.toList) = id := by funext x; exact ba_data x
  rw [e, List.map_id] at h2
  exact h2

theorem prefix_slash (r : Txt) : Lib.hasPrefix (47 :: r) [47] = true := by simp [Lib.hasPrefix]
theorem trim_slash (r : Txt) : Lib.trimPrefix (47 :: r) [47] = r := by simp [Lib.trimPrefix, Lib.hasPrefix]
theorem prefix_other {l : Txt} (h : ∀ r, l ≠ 47 :: r) : Lib.hasPrefix l [47] = false := by
  cases l with
  | nil => rfl
  | cons b r =>
    have hb : b ≠ 47 := fun e => h r (by rw [e])
    show [47].isPrefixOf (b :: r) = false
    rw [List.isPrefixOf, beq_eq_false_iff_ne.2 hb.symm]
    rfl

/-- What path.Split answers. -/
def Splits (l : Txt) (w : World) (e : Ending) (w' : World) : Prop := KF w w' ∧
  ((pathM l = none ∧ e = .returned (.tuple #[.slice none 0 0, .int .i64 20])) ∨
   ∃ ps A c, pathM l = some ps ∧ e = .returned (.tuple #[.slice A ps.length c, .int .i64 0]) ∧ ps.length ≤ c ∧ c ≤ 9 ∧ Strs w' w'.heap.size A (ps.map ba))

set_option maxRecDepth 100000 in
theorem split_root (w : World) : Calls Tryd.prog 52 #[.string ⟨#[47]⟩] w (Splits [47] w) := by
  go_enter Tryd.func52, Tryd.ntmps52
  go_wp2_with fail
  go_ret2
  exact ⟨KF.refl _, Or.inr ⟨[], none, 0, rfl, rfl, by simp, by omega, Strs.nil⟩⟩
set_option maxRecDepth 100000 in
theorem split_bare (s : ByteArray) (w : World) (h : ∀ r, s.data.toList ≠ 47 :: r) : Calls Tryd.prog 52 #[.string s] w (Splits s.data.toList w) := by
  have hp := prefix_other h
  have hn : (s.toList == [47]) = false := beq_eq_false_iff_ne.2 (by rw [Lib.toList_data]; exact h [])
  have hm : pathM s.data.toList = none := by
    cases hl : s.data.toList with
    | nil => rfl
    | cons b r => rw [pathM, if_pos (fun e => h r (by rw [hl, e]))]
  have HM := Lib.hid hm
  have C := Lib.hid (Tryd.strings_CutPrefix s ⟨#[47]⟩ w)
  have hp' : Lib.hasPrefix s.data.toList (ByteArray.mk #[47]).data.toList = false := hp
  rw [hp'] at C
  clear h hp hp' hm
  go_enter Tryd.func52, Tryd.ntmps52
  go_wp2_with fail
  refine C.out.mono ?_
  rintro e w1 ⟨rfl, rfl⟩
  go_wp2_with fail
  go_ret2
  exact ⟨KF.refl _, Or.inl ⟨HM.out, rfl⟩⟩

set_option maxRecDepth 100000 in
theorem split_led (r : Txt) (w : World) (hr : r ≠ []) (hs : r.length ≤ 1000000) (he : Env w) : Calls Tryd.prog 52 #[.string (ba (47 :: r))] w (Splits (47 :: r) w) := by
  obtain ⟨m, hm⟩ := he
  have C := Lib.hid (Tryd.strings_CutPrefix (ba (47 :: r)) ⟨#[47]⟩ w)
  have hp' : Lib.hasPrefix (ba (47 :: r)).data.toList (ByteArray.mk #[47]).data.toList = true := prefix_slash r
  have ht' : Lib.trimPrefix (ba (47 :: r)).data.toList (ByteArray.mk #[47]).data.toList = r := trim_slash r
  rw [hp', ht'] at C
  have D := Tryd.strings_SplitN (ba r) ⟨#[47]⟩ 9 m w (by rw [ba_size]; omega) hm (by decide) (by omega) (by omega)
  rw [splitB_lists, ba_size] at D
  have HD := Lib.hid D
  clear D
  have hn : ((ba (47 :: r)).toList == [47]) = false := beq_eq_false_iff_ne.2 (by
    rw [Lib.toList_data]
    intro h
    have h' : (47 :: r : Txt) = [47] := h
    injection h' with _ h'
    exact hr h')
  obtain ⟨q1, q2⟩ := split9 r
  have hrl : (ba r).data.toList = r := rfl
  rw [hrl] at HD
  have HR := Lib.hid hr
  clear hp' ht' hrl hr
  generalize ba (47 :: r) = S0 at hn C ⊢
  generalize Lib.splitK [47] 0 (min 9 (r.length + 1) - 1) r = q at q1 q2 HD
  have hNm : min 9 (r.length + 1) ≤ 9 := by omega
  have hNp : (pieces r).length ≤ r.length + 1 := pieces_length_le r
  rcases Nat.lt_or_ge 8 (pieces r).length with h8 | h8
  · have hq9 := q2 h8
    have hm : pathM (47 :: r) = none := by
      rw [pathM, if_neg (by simp), if_neg HR.out, if_neg (fun h => by omega)]
    have HM := Lib.hid hm
    have hl : (q.map ba).length = 9 := by rw [List.length_map]; exact hq9
    generalize q.map ba = xs at hl HD
    clear q1 q2 hm
    go_enter Tryd.func52, Tryd.ntmps52
    go_wp2_with fail
    refine C.out.mono ?_
    rintro e w1 ⟨rfl, rfl⟩
    go_wp2_with fail
    refine HD.out.mono ?_
    rintro e w2 ⟨rfl, rfl⟩
    rw [hl]
    go_wp2_with fail
    go_ret2
    exact ⟨KF.of_below ((Below.refl _ _).alloc (Nat.le_refl _) _), Or.inl ⟨HM.out, rfl⟩⟩
  · have hq := q1 h8
    have hl : (q.map ba).length = (pieces r).length := by rw [List.length_map, hq]
    have hS := fun (w0 : World) => Strs.laid w0 (q.map ba) (min 9 (r.length + 1)) 9
    have hw := fun w0 (c0 : Nat) (hst : Strs w0 w0.heap.size (some ⟨w.heap.size, 0, none⟩) (q.map ba)) => has_wrong (some ⟨w.heap.size, 0, none⟩) (q.map ba) (q.map ba).length c0 w0 rfl (by omega) hst
    have hall : decide (∀ x ∈ q.map ba, IsName x.data.toList) = decide (∀ p ∈ pieces r, IsName p) := by
      rw [hq]
      congr 1
      simp
    rw [hall] at hw
    have HS := Lib.hid hS
    have HW := Lib.hid hw
    have HQ := Lib.hid hq
    clear hS hw hall hq
    have hn8 : (q.map ba).length ≤ 8 := by omega
    have hd8 : decide ((8 : Int) < ((q.map ba).length : Int)) = false := decide_eq_false (by omega)
    have HL := Lib.hid hl
    clear hl
    generalize hx : q.map ba = xs at HS HW HD hn8 hd8 HL
    have HX := Lib.hid hx
    clear hx
    go_enter Tryd.func52, Tryd.ntmps52
    go_wp2_with fail
    refine C.out.mono ?_
    rintro e w1 ⟨rfl, rfl⟩
    go_wp2_with fail
    refine HD.out.mono ?_
    rintro e w2 ⟨rfl, rfl⟩
    have kA : KF w1 (w1.alloc (.cells (Lib.cellsOf xs (min 9 (r.length + 1))) 9)) := KF.of_below ((Below.refl _ _).alloc (Nat.le_refl _) _)
    have sA : Strs (w1.alloc (.cells (Lib.cellsOf xs (min 9 (r.length + 1))) 9)) (w1.alloc (.cells (Lib.cellsOf xs (min 9 (r.length + 1))) 9)).heap.size (some ⟨w1.heap.size, 0, none⟩) xs := (HS.out w1).more (by simp)
    have hsz : w1.heap.size = w1.heap.size := rfl
    generalize w1.alloc (.cells (Lib.cellsOf xs (min 9 (r.length + 1))) 9) = w2 at kA sA
    have SA := Lib.hid sA
    clear sA
    by_cases hall : ∀ p ∈ pieces r, IsName p
    · rw [decide_eq_true hall] at HW
      have HM := Lib.hid (show pathM (47 :: r) = some (pieces r) by rw [pathM, if_neg (by simp), if_neg HR.out, if_pos ⟨h8, hall⟩])
      go_wp2_with fail
      refine (HW.out _ _ SA.out).mono ?_
      rintro e w3 ⟨rfl, k3⟩
      go_wp2_with fail
      go_ret2
      refine ⟨kA.trans k3, Or.inr ⟨pieces r, some ⟨w1.heap.size, 0, none⟩, min 9 (r.length + 1), HM.out, ?_, ?_, hNm, ?_⟩⟩
      · rw [← HL.out]; rfl
      · omega
      · rw [← HQ.out, HX.out]
        exact SA.out.kept k3
    · rw [decide_eq_false hall] at HW
      have HM := Lib.hid (show pathM (47 :: r) = none by rw [pathM, if_neg (by simp), if_neg HR.out, if_neg (fun h => hall h.2)])
      go_wp2_with fail
      refine (HW.out _ _ SA.out).mono ?_
      rintro e w3 ⟨rfl, k3⟩
      go_wp2_with fail
      go_ret2
      exact ⟨kA.trans k3, Or.inl ⟨HM.out, rfl⟩⟩
theorem split_any (s : ByteArray) (w : World) (hs : s.size ≤ 1000000) (he : Env w) : Calls Tryd.prog 52 #[.string s] w (Splits s.data.toList w) := by
  rw [size_len] at hs
  rw [← ba_data s]
  generalize s.data.toList = l at hs
  match l with
  | [] => exact split_bare (ba []) w (fun r h => by cases h)
  | b :: r =>
    by_cases hb : b = 47
    · subst hb
      by_cases hr : r = []
      · subst hr; exact split_root w
      · exact split_led r w hr (by simp at hs; omega) he
    · exact split_bare (ba (b :: r)) w (fun r' h => hb (by injection h))
end Go.Proofs.YtlkiaghpdjbfeaaDoor

namespace Go.Proofs.YtlkiaghpdjbfeaaDoor
open Go.RowKit

set_option maxRecDepth 100000 in
theorem rname_same (s : ByteArray) (w : World) (hs : s.size ≤ 9223372036854775807) : Calls Tryd.prog 70 #[.string s] w fun e w' => e = .returned (.bool (decide (IsName s.data.toList))) ∧ w' = w := by
  go_enter Tryd.func70, Tryd.ntmps70
  go_wp2_with fail
  go_loopg [3] s.size (fun g i wr => ∃ k : Nat, k ≤ s.size ∧ s.size - k ≤ g ∧ i = .int .i64 k ∧ wr = w ∧ Hid (Fine s k))
  case atStart => exact ⟨0, by omega, by omega, rfl, rfl, Lib.hid fun k b hk => absurd hk (Nat.not_lt_zero _)⟩
  case round =>
    obtain ⟨k, hk, hg, rfl, rfl, HF⟩ := hrel
    rcases Nat.lt_or_ge k s.size with hlt | hge
    · have hlt' : (k : Int) < (s.size : Int) := by omega
      have hgi : (s[k]'hlt) = s.get! k := by
        show _ = s.get! k
        simp [ByteArray.get!, getElem!_pos, hlt]
        rfl
      have F2 := Lib.hid (fun h => HF.out.next hlt h)
      have FB := Lib.hid (fun h => hasBad_hit hlt h)
      have n47 : ∀ h : (((s.get! k).toNat : Int) == 47) = true, s.get! k = 47 := fun h => by
        have := of_decide_eq_true (by simpa using h) (p := (((s.get! k).toNat : Int) = 47))
        exact UInt8.toNat_inj.1 (by simpa using (by omega : (s.get! k).toNat = 47))
      have n0 : ∀ h : (((s.get! k).toNat : Int) == 0) = true, s.get! k = 0 := fun h => by
        have := of_decide_eq_true (by simpa using h) (p := (((s.get! k).toNat : Int) = 0))
        exact UInt8.toNat_inj.1 (by simpa using (by omega : (s.get! k).toNat = 0))
      have N47 := Lib.hid n47
      have N0 := Lib.hid n0
      clear n47 n0
      go_wp2_with fail
      · have h : ((s.get! k).toNat : Int) = 47 := by assumption
        go_ret
        refine ⟨returned_no fun hn => ?_, rfl⟩
        have := FB.out (Or.inl (N47.out (by rw [h]; rfl)))
        rw [hasBad_false.2 hn.1] at this
        cases this
      · have h : (((s.get! k).toNat : Int) == 47) = true ∨ (((s.get! k).toNat : Int) == 0) = true := by assumption
        go_ret
        refine ⟨returned_no fun hn => ?_, rfl⟩
        have : hasBad s.data.toList = true := by
          rcases h with h | h
          · exact FB.out (Or.inl (N47.out h))
          · exact FB.out (Or.inr (N0.out h))
        rw [hasBad_false.2 hn.1] at this
        cases this
      · have h : (((s.get! k).toNat : Int) == 47) = false ∧ (((s.get! k).toNat : Int) == 0) = false := by assumption
        go_roundg (s.size - (k + 1))
        case measure => omega
        case rel =>
          refine ⟨k + 1, by omega, by omega, by go_num, rfl, Lib.hid (F2.out ⟨fun e => ?_, fun e => ?_⟩)⟩
          · rw [e] at h; exact absurd h.1 (by decide)
          · rw [e] at h; exact absurd h.2 (by decide)
    · obtain rfl : k = s.size := by omega
      have hlt' : ¬ (s.size : Int) < (s.size : Int) := by omega
      have HB := Lib.hid HF.out.all
      go_wp2_with fail
      · have h : s.toList = [46] := by assumption
        go_ret
        rw [Lib.toList_data] at h
        exact ⟨returned_no fun hn => hn.2.2.2.1 h, rfl⟩
      · have h : ¬ s.toList = [46] := by assumption
        have h1 : (1 : Int) ≤ s.size := by assumption
        have h16 : (s.size : Int) ≤ 16 := by assumption
        go_ret
        refine ⟨?_, rfl⟩
        show Ending.returned (Value.bool (!(s.toList == [46]) && !(s.toList == [46, 46]))) = _
        rw [beq_eq_false_iff_ne.2 h]
        rw [Lib.toList_data] at h ⊢
        rw [size_len] at h1 h16
        congr 2
        by_cases h2 : s.data.toList = [46, 46]
        · rw [h2]
          rfl
        · rw [beq_eq_false_iff_ne.2 h2]
          symm
          exact decide_eq_true ⟨hasBad_false.1 HB.out, by omega, by omega, h, h2⟩
      · have h16 : (16 : Int) < s.size := by assumption
        go_ret
        rw [size_len] at h16
        exact ⟨returned_no fun hn => by have := hn.2.2.1; omega, rfl⟩
      · have h1 : (s.size : Int) < 1 := by assumption
        go_ret
        rw [size_len] at h1
        exact ⟨returned_no fun hn => by have := hn.2.1; omega, rfl⟩
theorem rname_any (s : ByteArray) (w : World) (hs : s.size ≤ 9223372036854775807) : Calls Tryd.prog 70 #[.string s] w fun e w' => e = .returned (.bool (decide (IsName s.data.toList))) ∧ KF w w' :=
  (rname_same s w hs).mono fun _ _ ⟨he, hw⟩ => ⟨he, hw ▸ KF.refl w⟩

theorem take_texts {xs ys : List Txt} {k : Nat} (h : xs.take k = ys.take k) (q1 : k < xs.length) (q2 : k < ys.length) (he : xs[k] = ys[k]) : xs.take (k + 1) = ys.take (k + 1) := by
  rw [List.take_add_one, List.take_add_one, h, List.getElem?_eq_getElem q1, List.getElem?_eq_getElem q2, he]
set_option maxRecDepth 100000 in
theorem texts_same (A A' : Option Addr) (n n' c c' : Nat) (xs ys : List Txt) (w : World) (hn : n = xs.length) (hn' : n' = ys.length) (hb : n ≤ 1000000000) (hb' : n' ≤ 1000000000) (h : Strs w w.heap.size A (xs.map ba)) (h' : Strs w w.heap.size A' (ys.map ba)) :
    Calls Tryd.prog 24 #[.slice A n c, .slice A' n' c'] w fun e w' => e = .returned (.bool (decide (xs = ys))) ∧ KF w w' := by
  have HS := Lib.hid h
  have HS' := Lib.hid h'
  have HN := Lib.hid hn
  have HN' := Lib.hid hn'
  clear h h' hn hn'
  by_cases hl : n = n'
  · subst hl
    go_enter Tryd.func24, Tryd.ntmps24
    go_wp2_with fail
    go_loopg [5] n (fun g i wr => ∃ k nq : Nat, k ≤ n ∧ n - k ≤ g ∧ i = .int .i64 k ∧ wr = w.drewN nq ∧ Hid (xs.take k = ys.take k))
    case atStart => exact ⟨0, 0, by omega, by omega, rfl, rfl, Lib.hid rfl⟩
    case round =>
      obtain ⟨k, nq, hk, hg, rfl, rfl, HT⟩ := hrel
      rcases Nat.lt_or_ge k n with hlt | hge
      · have hlt' : (k : Int) < (n : Int) := by omega
        have q1 : k < xs.length := by rw [← HN.out]; exact hlt
        have q2 : k < ys.length := by rw [← HN'.out]; exact hlt
        obtain ⟨b, o, rfl, hbb, hc⟩ := World.cellAt HS.out (n := k) (by rw [List.length_map]; exact q1)
        obtain ⟨b', o', rfl, hbb', hc'⟩ := World.cellAt HS'.out (n := k) (by rw [List.length_map]; exact q2)
        rw [List.getElem_map] at hc hc'
        by_cases he : xs[k] = ys[k]
        · have HX := Lib.hid (take_texts HT.out q1 q2 he)
          rw [he] at hc
          generalize ba ys[k] = x at hc hc'
          go_wp2
          go_quiet (fail)
          go_wp2
          go_roundg (n - (k + 1))
          case measure => omega
          case rel => exact ⟨k + 1, _, by omega, by omega, by go_num, rfl, HX.out⟩
        · have hbb : ((ba xs[k]).toList == (ba ys[k]).toList) = false := by
            rw [Lib.toList_data, Lib.toList_data]
            exact beq_eq_false_iff_ne.2 he
          have HD := Lib.hid (show decide (xs = ys) = false by
            rw [decide_eq_false_iff_not]
            rintro rfl
            exact he rfl)
          generalize ba xs[k] = x at hc hbb
          generalize ba ys[k] = y at hc' hbb
          go_wp2
          go_quiet (fail)
          go_wp2
          go_ret
          exact ⟨by rw [HD.out]; rfl, ((KF.refl _).drewN _).drewN _⟩
      · obtain rfl : k = n := by omega
        have HD := Lib.hid (show decide (xs = ys) = true by
          have h := HT.out
          rw [List.take_of_length_le (by rw [← HN.out]; exact Nat.le_refl _), List.take_of_length_le (by rw [← HN'.out]; exact Nat.le_refl _)] at h
          exact decide_eq_true h)
        have hlt' : ¬ (k : Int) < (k : Int) := by omega
        go_wp2
        go_ret
        exact ⟨by rw [HD.out]; rfl, (KF.refl _).drewN _⟩
  · have hnn : ((n : Int) == (n' : Int)) = false := beq_eq_false_iff_ne.2 (by omega)
    have HD := Lib.hid (show decide (xs = ys) = false by
      rw [decide_eq_false_iff_not]
      rintro rfl
      exact hl (HN.out.trans HN'.out.symm))
    go_enter Tryd.func24, Tryd.ntmps24
    go_wp2_with fail
    go_ret
    exact ⟨by rw [HD.out]; rfl, KF.refl _⟩
end Go.Proofs.YtlkiaghpdjbfeaaDoor

namespace Go.Proofs.YtlkiaghpdjbfeaaDoor
open Go.RowKit

set_option maxRecDepth 100000 in
theorem strsT : St Tryd.prog 31 9 := ⟨Tryd.underlying31, _, rfl, rfl, rfl, rfl⟩
/-- What the document's Split answers. -/
def RSplits (l : Txt) (w : World) (e : Ending) (w' : World) : Prop := KF w w' ∧
  ((pathM l = none ∧ ∃ A n c, e = .returned (.tuple #[.slice A n c, .bool false])) ∨
   ∃ ps A c, pathM l = some ps ∧ e = .returned (.tuple #[.slice A ps.length c, .bool true]) ∧ ps.length ≤ c ∧ c ≤ 9223372036854775807 ∧ Strs w' w'.heap.size A (ps.map ba))

/-- How far the document's Split is: what is laid is the first pieces; the piece that it is in has no slash up to here. -/
def Going (l r : Txt) (out : List Txt) (f i : Nat) : Prop := f ≤ i ∧ out ++ pieces (l.drop f) = pieces r ∧ ∀ j, f ≤ j → j < i → l[j]? ≠ some 47
theorem Going.more {l r : Txt} {out : List Txt} {f i : Nat} (h : Going l r out f i) (hi : l[i]? ≠ some 47) : Going l r out f (i + 1) :=
  ⟨by have := h.1; omega, h.2.1, fun j hf hj => by
    rcases Nat.lt_or_ge j i with h' | h'
    · exact h.2.2 j hf h'
    · obtain rfl : j = i := by omega
      exact hi⟩
theorem Going.piece {l r : Txt} {out : List Txt} {f i : Nat} (h : Going l r out f i) : ∀ b ∈ (l.drop f).take (i - f), b ≠ 47 := fun b hb e => by
  subst e
  obtain ⟨j, hj, hj'⟩ := List.mem_iff_getElem.1 hb
  rw [List.getElem_take, List.getElem_drop] at hj'
  have hj2 : j < i - f := by
    rw [List.length_take] at hj; omega
  refine h.2.2 (f + j) (by omega) (by omega) ?_
  rw [← hj']
  exact List.getElem?_eq_getElem _
theorem Going.cut {l r : Txt} {out : List Txt} {f i : Nat} (h : Going l r out f i) (hi : l[i]? = some 47) : Going l r (out ++ [(l.drop f).take (i - f)]) (i + 1) (i + 1) := by
  refine ⟨Nat.le_refl _, ?_, fun j h1 h2 => by omega⟩
  have hlt : i < l.length := by
    rcases Nat.lt_or_ge i l.length with h' | h'
    · exact h'
    · rw [List.getElem?_eq_none h'] at hi; cases hi
  have hfi := h.1
  have e : l.drop f = (l.drop f).take (i - f) ++ 47 :: l.drop (i + 1) := by
    have h1 : (l.drop f).drop (i - f) = l.drop i := by rw [List.drop_drop]; congr 1; omega
    have h2 : l.drop i = 47 :: l.drop (i + 1) := by
      rw [List.getElem?_eq_getElem hlt] at hi
      injection hi with hi
      rw [List.drop_eq_getElem_cons hlt, hi]
    rw [← h2, ← h1, List.take_append_drop]
  rw [← h.2.1, List.append_assoc]
  congr 1
  have := pieces_cut h.piece (l.drop (i + 1))
  rw [← e] at this
  rw [this]
  rfl
theorem Going.end {l r : Txt} {out : List Txt} {f : Nat} (h : Going l r out f l.length) : out ++ [(l.drop f).take (l.length - f)] = pieces r := by
  have hp := h.piece
  have e : (l.drop f).take (l.length - f) = l.drop f := List.take_of_length_le (by rw [List.length_drop]; exact Nat.le_refl _)
  rw [e] at hp ⊢
  rw [← h.2.1, pieces_whole hp]

theorem extract_ba (s : ByteArray) (f i : Nat) : s.extract f i = ba ((s.data.toList.drop f).take (i - f)) := by
  apply ba_ext.1
  rw [Lib.extract_data]
theorem piece_le (l : Txt) : ∀ p ∈ pieces l, p.length ≤ l.length := by
  induction l with
  | nil => simp [pieces]
  | cons c r ih =>
    intro p hp
    by_cases h : c = 47
    · subst h
      rw [pieces_slash, List.mem_cons] at hp
      rcases hp with rfl | hp
      · simp
      · have := ih p hp; simp; omega
    · obtain ⟨x, q, hr⟩ : ∃ x q, pieces r = x :: q := by
        cases hh : pieces r with
        | nil => exact absurd hh (pieces_ne r)
        | cons x q => exact ⟨x, q, rfl⟩
      rw [pieces_byte h hr, List.mem_cons] at hp
      rcases hp with rfl | hp
      · have := ih x (by rw [hr]; simp); simp; omega
      · have := ih p (by rw [hr]; simp [hp]); simp; omega
set_option maxRecDepth 100000 in
theorem rsplit_root (w : World) : Calls Tryd.prog 55 #[.string ⟨#[47]⟩] w (RSplits [47] w) := by
  go_enter Tryd.func55, Tryd.ntmps55
  go_wp2_with fail
  go_ret2
  exact ⟨KF.of_below ((Below.refl _ _).alloc (Nat.le_refl _) _), Or.inr ⟨[], _, _, rfl, rfl, by simp, by omega, Strs.nil⟩⟩
set_option maxRecDepth 100000 in
theorem rsplit_bare (s : ByteArray) (w : World) (h : ∀ r, s.data.toList ≠ 47 :: r) : Calls Tryd.prog 55 #[.string s] w (RSplits s.data.toList w) := by
  have hn : (s.toList == [47]) = false := beq_eq_false_iff_ne.2 (by rw [Lib.toList_data]; exact h [])
  have hm : pathM s.data.toList = none := by
    cases hl : s.data.toList with
    | nil => rfl
    | cons b r => rw [pathM, if_pos (fun e => h r (by rw [hl, e]))]
  have HM := Lib.hid hm
  rcases Nat.eq_zero_or_pos s.size with h0 | h0
  · have e0 : ((s.size : Int) == 0) = true := by rw [h0]; rfl
    have H0 := Lib.hid h0
    clear h hm h0
    go_enter Tryd.func55, Tryd.ntmps55
    go_wp2_with fail
    go_ret2
    exact ⟨KF.of_below ((Below.refl _ _).alloc (Nat.le_refl _) _), Or.inl ⟨HM.out, _, _, _, rfl⟩⟩
  · have e0 : ((s.size : Int) == 0) = false := beq_eq_false_iff_ne.2 (by omega)
    have hlt' : (0 : Int) < (s.size : Int) := by omega
    have hb : (((s[0]'h0).toNat : Int) == 47) = false := by
      rw [beq_eq_false_iff_ne]
      intro e
      have e2 : (s[0]'h0) = 47 := UInt8.toNat_inj.1 (by simpa using (by omega : (s[0]'h0).toNat = 47))
      have := Lib.data_getElem? s 0 h0
      rw [e2] at this
      cases hl : s.data.toList with
      | nil => rw [hl] at this; cases this
      | cons b r =>
        rw [hl] at this
        injection this with this
        exact h r (by rw [hl, this])
    clear h hm
    go_enter Tryd.func55, Tryd.ntmps55
    go_wp2_with fail
    go_ret2
    exact ⟨KF.of_below ((Below.refl _ _).alloc (Nat.le_refl _) _), Or.inl ⟨HM.out, _, _, _, rfl⟩⟩

set_option maxRecDepth 100000 in
theorem rsplit_led (r : Txt) (w : World) (hr : r ≠ []) (hs : r.length ≤ 1000) : Calls Tryd.prog 55 #[.string (ba (47 :: r))] w (RSplits (47 :: r) w) := by
  have hn : ((ba (47 :: r)).toList == [47]) = false := beq_eq_false_iff_ne.2 (by
    rw [Lib.toList_data]
    intro h
    have h' : (47 :: r : Txt) = [47] := h
    injection h' with _ h'
    exact hr h')
  have hsz : (ba (47 :: r)).size = r.length + 1 := ba_size _
  have hL : (ba (47 :: r)).data.toList = 47 :: r := rfl
  have HR := Lib.hid hr
  clear hr
  generalize ba (47 :: r) = s at *
  have h0 : 0 < s.size := by omega
  have hb : (s[0]'h0) = 47 := by
    have := Lib.data_getElem? s 0 h0
    rw [hL] at this
    injection this with this
    exact this.symm
  have e0 : ((s.size : Int) == 0) = false := beq_eq_false_iff_ne.2 (by omega)
  have hlt' : (0 : Int) < (s.size : Int) := by omega
  have HL := Lib.hid hL
  have HZ := Lib.hid hsz
  have h1000 : s.size ≤ 1001 := by omega
  clear hL hsz
  go_enter Tryd.func55, Tryd.ntmps55
  go_wp2_with fail
  go_loopg [4, 5, 6] (s.size + 1) (fun g s4 s5 s6 wr => ∃ (out : List Txt) (f i : Nat) (A : Option Addr) (n c : Nat), s4 = .slice A n c ∧ s5 = .int .i64 f ∧ s6 = .int .i64 i ∧ OwnT 9 wr (.slice A n c) (out.map ba) ∧ NB w (.slice A n c) ∧ KF w wr ∧ out.length ≤ i ∧ s.size + 1 - i ≤ g ∧ ((i ≤ s.size ∧ Going (47 :: r) r out f i) ∨ (i = s.size + 1 ∧ out = pieces r)))
  case atStart =>
    exact ⟨[], 1, 1, _, 0, 0, rfl, rfl, rfl, OwnT.empty _ _, NB.new (Nat.le_refl _) _ _, KF.of_below ((Below.refl _ _).alloc (Nat.le_refl _) _), by simp, by omega, Or.inl ⟨by omega, Nat.le_refl _, rfl, fun j h1 h2 => by omega⟩⟩
  case round =>
    obtain ⟨out, f, i, A, n, c, rfl, rfl, rfl, ho, hnb, kr, hoi, hg, ⟨hi, hgo⟩ | ⟨hi, hout⟩⟩ := hrel
    · have hfi := hgo.1
      have HG := Lib.hid hgo
      clear hgo
      have hle : (i : Int) ≤ (s.size : Int) := by omega
      rcases Nat.lt_or_ge i s.size with hlt | hge
      · have hlt' : (i : Int) < (s.size : Int) := by omega
        have hne : ((i : Int) == (s.size : Int)) = false := beq_eq_false_iff_ne.2 (by omega)
        have hget := Lib.data_getElem? s i hlt
        rw [HL.out] at hget
        by_cases hx : (s[i]'hlt) = 47
        · rw [hx] at hget
          have HC := Lib.hid (HG.out.cut hget)
          clear HG hget
          have HX := Lib.hid (extract_ba s f i)
          rw [HL.out] at HX
          go_wp2_with (at_builtin; refine wpList_append_str _ rfl _ _ _ rfl strsT (.slice A n c) (out.map ba) rfl (ho.alloc _) (wr.heap.size + 1) (some ⟨wr.heap.size, 0, none⟩) 1 1 [s.extract f i] rfl rfl (strs_one wr _ _) (by simp; omega) ?_; intro A4 n4 c4 w4 o4 e4 h4 m4 g4 f4)
          have k4 := (kr.alloc (.cells #[.string (s.extract f i)] 9)).own g4 hnb
          go_roundg (s.size + 1 - (i + 1))
          case measure => omega
          case rel =>
            refine ⟨out ++ [((47 :: r).drop f).take (i - f)], i + 1, i + 1, A4, n4, c4, rfl, by go_num, by go_num, ?_, hnb.next (Nat.le_trans kr.size (by simp)) f4, k4, by simp; omega, by omega, Or.inl ⟨by omega, HC.out⟩⟩
            rw [List.map_append]
            rw [HX.out] at o4
            exact o4
        · have hxb : (((s[i]'hlt).toNat : Int) == 47) = false := by
            rw [beq_eq_false_iff_ne]
            intro e
            exact hx (UInt8.toNat_inj.1 (by simpa using (by omega : (s[i]'hlt).toNat = 47)))
          have HC := Lib.hid (HG.out.more (by rw [hget]; intro e; injection e with e; exact hx e))
          clear HG hget
          go_wp2_with fail
          go_roundg (s.size + 1 - (i + 1))
          case measure => omega
          case rel => exact ⟨out, f, i + 1, A, n, c, rfl, rfl, by go_num, ho, hnb, kr, by omega, by omega, Or.inl ⟨by omega, HC.out⟩⟩
      · have his : i = s.size := by omega
        have hne : ((i : Int) == (s.size : Int)) = true := by rw [his]; exact beq_self_eq_true _
        have HC := Lib.hid (show out ++ [((47 :: r).drop f).take (i - f)] = pieces r from by
          have hll : (47 :: r : Txt).length = i := by rw [← HL.out, ← size_len, his]
          have hgo := HG.out
          rw [← hll] at hgo ⊢
          exact hgo.end)
        have HI := Lib.hid his
        clear his HG
        have HX := Lib.hid (extract_ba s f i)
        rw [HL.out] at HX
        go_wp2_with (at_builtin; refine wpList_append_str _ rfl _ _ _ rfl strsT (.slice A n c) (out.map ba) rfl (ho.alloc _) (wr.heap.size + 1) (some ⟨wr.heap.size, 0, none⟩) 1 1 [s.extract f i] rfl rfl (strs_one wr _ _) (by simp; omega) ?_; intro A4 n4 c4 w4 o4 e4 h4 m4 g4 f4)
        have k4 := (kr.alloc (.cells #[.string (s.extract f i)] 9)).own g4 hnb
        go_roundg 0
        case measure => omega
        case rel =>
          refine ⟨out ++ [((47 :: r).drop f).take (i - f)], i + 1, i + 1, A4, n4, c4, rfl, by go_num, by go_num, ?_, hnb.next (Nat.le_trans kr.size (by simp)) f4, k4, by simp; omega, by have := HI.out; omega, Or.inr ⟨by have := HI.out; omega, HC.out⟩⟩
          rw [List.map_append]
          rw [HX.out] at o4
          exact o4
    · have hle : ¬ ((i : Int) ≤ (s.size : Int)) := by omega
      subst hout
      obtain ⟨A1, c1, e1, hc1, hm1, hst, _⟩ := ho.shape
      injection e1 with e1 e2 e3
      rw [List.length_map] at e2 hc1
      subst e1 e3
      have HN := Lib.hid e2
      have HS := Lib.hid hst
      simp only [maxLen] at hm1
      have hn1000 : n ≤ 1001 := by
        have := pieces_length_le r
        omega
      have hnc : n ≤ c := by omega
      clear hst ho hnb e2
      obtain ⟨w1, hw1⟩ : ∃ w1 : World, w1 = wr := ⟨_, rfl⟩
      subst hw1
      go_wp2_with fail
      go_loopg [7] n (fun g i wq => ∃ k : Nat, k ≤ n ∧ n - k ≤ g ∧ i = .int .i64 k ∧ KF w1 wq ∧ Hid (∀ p ∈ (pieces r).take k, IsName p))
      case atStart => exact ⟨0, by omega, by omega, rfl, KF.refl _, Lib.hid (by simp)⟩
      case round =>
        obtain ⟨k, hk, hg2, rfl, kq, HA⟩ := hrel
        rcases Nat.lt_or_ge k n with hlt | hge
        · have hlt' : (k : Int) < (n : Int) := by omega
          have q1 : k < (pieces r).length := by rw [← HN.out]; exact hlt
          obtain ⟨b, o, rfl, hbb, hcell⟩ := World.cellAt (HS.out.kept kq) (n := k) (by rw [List.length_map]; exact q1)
          rw [List.getElem_map] at hcell
          have hin := List.getElem_mem q1
          have hjp := joined_pieces r
          have hpl : ((pieces r)[k]).length ≤ 1000 := by
            have := piece_le r _ hin
            omega
          have R := rname_any (ba (pieces r)[k]) wr (by rw [ba_size]; omega)
          have hbd : (ba (pieces r)[k]).data.toList = (pieces r)[k] := rfl
          rw [hbd] at R
          by_cases hname : IsName (pieces r)[k]
          · rw [decide_eq_true hname] at R
            have HX := Lib.hid (show ∀ p ∈ (pieces r).take (k + 1), IsName p by
              intro p hp
              rw [List.take_add_one, List.getElem?_eq_getElem q1, List.mem_append] at hp
              rcases hp with hp | hp
              · exact HA.out p hp
              · rw [Option.toList_some, List.mem_singleton] at hp
                rw [hp]
                exact hname)
            have HR2 := Lib.hid R
            clear R hname hbd hin hjp hpl
            generalize ba (pieces r)[k] = x at hcell HR2
            go_wp2_with fail
            refine HR2.out.mono ?_
            rintro e w2 ⟨rfl, k2⟩
            go_wp2_with fail
            go_roundg (n - (k + 1))
            case measure => omega
            case rel => exact ⟨k + 1, by omega, by omega, by go_num, kq.trans k2, HX⟩
          · rw [decide_eq_false hname] at R
            have HM := Lib.hid (show pathM (47 :: r) = none by rw [pathM, if_neg (by simp), if_neg HR.out, if_neg (fun h => hname (h.2 _ hin))])
            have HR2 := Lib.hid R
            clear R hname hbd hin hjp hpl
            generalize ba (pieces r)[k] = x at hcell HR2
            go_wp2_with fail
            refine HR2.out.mono ?_
            rintro e w2 ⟨rfl, k2⟩
            go_wp2_with fail
            go_ret2
            exact ⟨((kr.trans kq).trans k2).trans (KF.of_below ((Below.refl _ _).alloc (Nat.le_refl _) _)), Or.inl ⟨HM.out, _, _, _, rfl⟩⟩
        · obtain rfl : k = n := by omega
          have hlt' : ¬ (k : Int) < (k : Int) := by omega
          have hall : ∀ p ∈ pieces r, IsName p := by
            have := HA.out
            rw [HN.out, List.take_length] at this
            exact this
          rcases Nat.lt_or_ge 8 k with h8 | h8
          · have hd : decide ((8 : Int) < (k : Int)) = true := decide_eq_true (by omega)
            have HM := Lib.hid (show pathM (47 :: r) = none by rw [pathM, if_neg (by simp), if_neg HR.out, if_neg (fun h => by have := h.1; have := HN.out; omega)])
            clear hall
            go_wp2_with fail
            go_ret2
            exact ⟨(kr.trans kq).trans (KF.of_below ((Below.refl _ _).alloc (Nat.le_refl _) _)), Or.inl ⟨HM.out, _, _, _, rfl⟩⟩
          · have hd : decide ((8 : Int) < (k : Int)) = false := decide_eq_false (by omega)
            have HM := Lib.hid (show pathM (47 :: r) = some (pieces r) by rw [pathM, if_neg (by simp), if_neg HR.out, if_pos ⟨by have := HN.out; omega, hall⟩])
            clear hall
            go_wp2_with fail
            go_ret2
            refine ⟨kr.trans kq, Or.inr ⟨pieces r, A, c, HM.out, ?_, by have := HN.out; omega, by omega, HS.out.kept kq⟩⟩
            rw [← HN.out]
            rfl
theorem rsplit_any (s : ByteArray) (w : World) (hs : s.size ≤ 1000) : Calls Tryd.prog 55 #[.string s] w (RSplits s.data.toList w) := by
  rw [size_len] at hs
  rw [← ba_data s]
  generalize s.data.toList = l at hs
  match l with
  | [] => exact rsplit_bare (ba []) w (fun r h => by cases h)
  | b :: r =>
    by_cases hb : b = 47
    · subst hb
      by_cases hr : r = []
      · subst hr; exact rsplit_root w
      · exact rsplit_led r w hr (by simp at hs; omega)
    · exact rsplit_bare (ba (b :: r)) w (fun r' h => hb (by injection h))
end Go.Proofs.YtlkiaghpdjbfeaaDoor

namespace Go.Proofs.YtlkiaghpdjbfeaaDoor
open Go.RowKit Go.Shelf
attribute [local go_sem] Oper.semAt_some

/-- A reader behind so many texts; the texts. -/
noncomputable def lstS : Nat → List UInt8 × Bool → List UInt8 × Bool
  | 0, s => s
  | k + 1, s => byS 300 (lstS k s)
noncomputable def lstV (k : Nat) (s : List UInt8 × Bool) : Txt := byV 300 (lstS k s)
noncomputable def lstN (n : Nat) (s : List UInt8 × Bool) : List Txt := (List.range n).map fun k => lstV k s
theorem lstN_length (n : Nat) (s : List UInt8 × Bool) : (lstN n s).length = n := by simp [lstN]
theorem lstN_succ (n : Nat) (s : List UInt8 × Bool) : lstN (n + 1) s = lstN n s ++ [lstV n s] := by simp [lstN, List.range_succ]
theorem byS_wrong (m : Int) : byS m ([], true) = ([], true) := by
  have hb : cntBad m ([], true) := .inl (by simp [tk, tkB])
  unfold byS cntV cntS
  rw [if_pos hb, if_pos hb]
  rfl
theorem lstS_wrong {s : List UInt8 × Bool} {k : Nat} (h : lstS k s = ([], true)) : ∀ j, lstS (k + j) s = ([], true)
  | 0 => h
  | j + 1 => by show byS 300 (lstS (k + j) s) = _; rw [lstS_wrong h j, byS_wrong]
theorem lstS_len (s : List UInt8 × Bool) : ∀ k, (lstS k s).1.length ≤ s.1.length
  | 0 => Nat.le_refl _
  | k + 1 => Nat.le_trans (byS_len 300 _) (lstS_len s k)

theorem RdQ.lt {w : World} {g q : Nat} {s : List UInt8 × Bool} (h : RdQ w g q s) : g < w.heap.size := h.e.lt
theorem RdQ.wrong {w : World} {g q : Nat} {s : List UInt8 × Bool} (h : RdQ w g q s) (hs : s.2 = true) : s = ([], true) := by
  have h1 := h.e.nil hs
  obtain ⟨l, b⟩ := s
  simp only at h1 hs
  rw [h1, hs]
/-- A reader stands, where neither its own block nor the one that its bytes lie in turns. -/
theorem RdQ.kept {S : Nat → Prop} {w w' : World} {g q : Nat} {s : List UInt8 × Bool} (h : RdQ w g q s) (k : Keep S w w') (hg : ¬ S g) (hq : ¬ S q) : RdQ w' g q s := by
  obtain ⟨A, c, h, hA⟩ := h
  refine ⟨A, c, ⟨(k.block g h.lt hg).trans h.block, fun j b hj => ?_, h.cap, h.nil⟩, hA⟩
  obtain ⟨a, rfl, hb, hc⟩ := h.rd j b hj
  have hne : s.1 ≠ [] := fun h0 => by rw [h0] at hj; simp at hj
  have hbq := hA a rfl hne
  exact ⟨a, rfl, Nat.lt_of_lt_of_le hb k.size, (k.cell (by rw [block_add]; exact hb) (by rw [block_add, hbq]; exact hq)).trans hc⟩
theorem by_q (g q : Nat) (s : List UInt8 × Bool) (most : Int) (w : World) (h : RdQ w g q s) (hb : s.1.length ≤ 70368744177664) :
    Calls Tryd.prog 43 #[.pointer (some ⟨g, 0, none⟩), .int .i64 most] w fun e w' => ∃ A1 c1, e = .returned (.slice A1 (byV most s).length c1) ∧ Rd w' w'.heap.size A1 (byV most s) ∧ (byV most s).length ≤ c1 ∧ RdQ w' g q (byS most s) ∧ Keep (fun k => k = g) w w' := by
  refine (bytes_q g q s most w h hb).mono ?_
  rintro e w' ⟨A1, n1, c1, rfl, hn, hr, hle, hs, hk⟩
  obtain rfl := hn.out
  exact ⟨A1, c1, rfl, hr, hle, hs, hk⟩
set_option maxHeartbeats 400000 in
theorem one_any (g q : Nat) (s : List UInt8 × Bool) (w : World) (h : RdQ w g q s) (hb : s.1.length ≤ 70368744177664) :
    Calls Tryd.prog 44 #[.pointer (some ⟨g, 0, none⟩)] w fun e w' => e = .returned (.string (ba (byV 300 s))) ∧ RdQ w' g q (byS 300 s) ∧ Keep (fun k => k = g) w w' := by
  have C := Lib.hid (by_q g q s 300 w h hb)
  generalize byV 300 s = v at *
  generalize byS 300 s = s' at *
  go_enter Tryd.func44, Tryd.ntmps44
  go_wp2_with fail
  refine C.out.mono ?_
  rintro e w1 ⟨A1, c1, rfl, hr, _, hs, hk⟩
  have cv := string_any c1 hr
  go_wp2_with fail
  go_ret
  exact ⟨rfl, hs, hk⟩

/-- The iterator that things gives: its captured variables lie in three new blocks. -/
def iterT (B : Nat) : Value := .func (.func 72) #[] #[.pointer (some ⟨B + 1, 0, none⟩), .pointer (some ⟨B + 1 + 1, 0, none⟩), .pointer (some ⟨B, 0, none⟩)]
theorem thingsT_any (g : Nat) (n : Int) (fn : Fn) (cs : Array Value) (w : World) :
    Calls Tryd.prog 61 #[.pointer (some ⟨g, 0, none⟩), .int .i64 n, .func fn #[] cs] w fun e w' => e = .returned (iterT w.heap.size) ∧ ((w.alloc (.cells #[.pointer (some ⟨g, 0, none⟩)] 84)).alloc (.cells #[.int .i64 n] 3)).alloc (.cells #[.func fn #[] cs] 89) = w' := by
  go_enter Tryd.func61, Tryd.ntmps61
  go_wp2
  go_ret
  exact ⟨rfl, rfl⟩

/-- The state of a list that is taken: the reader at st; the texts that have come; what the iterator has captured. -/
structure LI (w W0 : World) (g q b0 B V : Nat) (st : List UInt8 × Bool) (pre : List Txt) (X : World) : Prop where
  rd : RdQ X g q st
  box : ∃ v, X.heap[b0]? = some (.cells #[v] 31 (0, 0)) ∧ OwnT 9 X v (pre.map ba) ∧ NB W0 v
  c0 : X.heap[B]? = some (.cells #[.pointer (some ⟨g, 0, none⟩)] 84 (0, 0))
  c1 : X.heap[B + 1]? = some (.cells #[.int .i64 V] 3 (0, 0))
  c2 : X.heap[B + 1 + 1]? = some (.cells #[.func (.func 44) #[] #[]] 89 (0, 0))
  keep : Keep (fun k => k = g) w X
  size : W0.heap.size ≤ X.heap.size
/-- Where a list's blocks lie. -/
structure LW (w W0 : World) (g q b0 B : Nat) : Prop where
  g : g < w.heap.size
  q : q < w.heap.size
  b0 : w.heap.size ≤ b0 ∧ b0 < B
  B : B + 1 + 1 < W0.heap.size
theorem LI.kept {S : Nat → Prop} {w W0 : World} {g q b0 B V : Nat} {st : List UInt8 × Bool} {pre : List Txt} {X Y : World} (h : LI w W0 g q b0 B V st pre X) (k : Keep S X Y) (hg : ¬ S g) (hq : ¬ S q) (h0 : ¬ S b0) (hB : ¬ S B) (hB1 : ¬ S (B + 1)) (hB2 : ¬ S (B + 1 + 1))
    (hw : ∀ i, i < w.heap.size → S i → i = g) (hv : ∀ v i, X.heap[b0]? = some (.cells #[v] 31 (0, 0)) → v.ownBlock = some i → ¬ S i) : LI w W0 g q b0 B V st pre Y := by
  obtain ⟨v, h1, h2, h3⟩ := h.box
  exact ⟨h.rd.kept k hg hq, ⟨v, (k.block b0 (lt_of_block h1) h0).trans h1, h2.kept k (fun i hi => hv v i h1 hi), h3⟩, (k.block B (lt_of_block h.c0) hB).trans h.c0, (k.block _ (lt_of_block h.c1) hB1).trans h.c1, (k.block _ (lt_of_block h.c2) hB2).trans h.c2,
    h.keep.trans k hw, Nat.le_trans h.size k.size⟩
theorem OwnT.cells_ {E : TypeId} {w : World} {v : Value} {xs : List ByteArray} (h : OwnT E w v xs) {i : Nat} (hi : v.ownBlock = some i) : ∃ cs, w.heap[i]? = some (.cells cs E (0, 0)) := by
  rcases h.2 with ⟨rfl, _⟩ | ⟨g, cap, cur, rfl, _, hg, _⟩
  · simp [Value.ownBlock] at hi
  · simp [Value.ownBlock] at hi
    subst hi
    exact ⟨_, hg⟩
theorem LI.stands {w W0 : World} {g q b0 B V : Nat} {st : List UInt8 × Bool} {pre : List Txt} (hw : LW w W0 g q b0 B) (_hsz : w.heap.size ≤ W0.heap.size) : Stands W0.heap.size (LI w W0 g q b0 B V st pre) := fun X k o o' hk ho hc h => by
  have hg := hw.g
  have hq := hw.q
  have hb := hw.b0
  have hB := hw.B
  refine h.kept (keep_put X k o') (by omega) (by omega) (by omega) (by omega) (by omega) (by omega) (fun i hi he => by omega) fun v i h1 hi he => ?_
  obtain ⟨v', h1', h2, _⟩ := h.box
  rw [h1] at h1'
  simp only [Option.some.injEq, Obj.cells.injEq, Array.mk.injEq, List.cons.injEq, and_true] at h1'
  rw [← h1'] at h2
  obtain ⟨cs, e⟩ := h2.cells_ hi
  rw [he, ho] at e
  injection e with e
  rw [e] at hc
  cases hc
/-- The reader has read on. -/
theorem LI.read {w W0 : World} {g q b0 B V : Nat} {st st' : List UInt8 × Bool} {pre : List Txt} {X Y : World} (h : LI w W0 g q b0 B V st pre X) (hw : LW w W0 g q b0 B) (_hsz : w.heap.size ≤ W0.heap.size) (k : Keep (fun i => i = g) X Y) (hr : RdQ Y g q st') : LI w W0 g q b0 B V st' pre Y := by
  have hg := hw.g
  have hb := hw.b0
  have hB := hw.B
  obtain ⟨v, h1, h2, h3⟩ := h.box
  exact ⟨hr, ⟨v, (k.block b0 (lt_of_block h1) (by omega)).trans h1, h2.kept k (fun i hi he => by have := h3 i hi; omega), h3⟩, (k.block B (lt_of_block h.c0) (by omega)).trans h.c0, (k.block _ (lt_of_block h.c1) (by omega)).trans h.c1, (k.block _ (lt_of_block h.c2) (by omega)).trans h.c2,
    h.keep.trans k (fun _ _ e => e), Nat.le_trans h.size k.size⟩
theorem RdQ.cell1 {w : World} {g q : Nat} {s : List UInt8 × Bool} (h : RdQ w g q s) : w.cell? ⟨g, 1, none⟩ = some (.bool s.2) := by
  obtain ⟨A, c, h, _⟩ := h
  exact h.cell1
theorem RdQ.isCells {w : World} {g q : Nat} {s : List UInt8 × Bool} (h : RdQ w g q s) : ∃ cs t fr, w.heap[g]? = some (.cells cs t fr) := by
  obtain ⟨A, c, h, _⟩ := h
  exact ⟨_, _, _, h.block⟩
/-- Between two steps, when one has been read, at the end. -/
def IT (w W0 : World) (g q b0 B V : Nat) (s : List UInt8 × Bool) (pre : List Txt) (X : World) : Prop := pre.length ≤ V ∧ pre = lstN pre.length s ∧ LI w W0 g q b0 B V (lstS pre.length s) pre X
def MT (w W0 : World) (g q b0 B V : Nat) (s : List UInt8 × Bool) (pre : List Txt) (x : Txt) (X : World) : Prop := pre.length < V ∧ pre = lstN pre.length s ∧ x = lstV pre.length s ∧ LI w W0 g q b0 B V (lstS (pre.length + 1) s) pre X
def DT (w W0 : World) (g q b0 B V : Nat) (s : List UInt8 × Bool) (pre : List Txt) (X : World) : Prop := LI w W0 g q b0 B V (lstS V s) pre X ∧ ((lstS V s).2 = false → pre = lstN V s)
set_option maxRecDepth 100000 in
set_option maxHeartbeats 1000000 in
theorem iter_T (w W0 : World) (g q b0 B V : Nat) (s : List UInt8 × Bool) (hw : LW w W0 g q b0 B) (hsz : w.heap.size ≤ W0.heap.size) (hV : V ≤ 1000) (hs : s.1.length ≤ 70368744177664) (l : Nat) (BK : World → Prop) (hBK : ∀ X Y, BK X → KeepsFrom W0.heap.size X Y → BK Y)
    (hY : ∀ pre x X, MT w W0 g q b0 B V s pre x X → BK X → YieldAt Fence.wide (3 - 1 - 1) Tryd.prog l #[.string (ba x)] X fun e Y => e = .returned (.bool true) ∧ IT w W0 g q b0 B V s (pre ++ [x]) Y ∧ BK Y)
    (W : World) (h0 : IT w W0 g q b0 B V s [] W) (hb : BK W) :
    CallsIn Fence.wide (3 - 1) Tryd.prog 72 #[.func (.yield l) #[] #[], .pointer (some ⟨B + 1, 0, none⟩), .pointer (some ⟨B + 1 + 1, 0, none⟩), .pointer (some ⟨B, 0, none⟩)] W fun e Y => (∃ v, e = .returned v) ∧ BK Y ∧ ∃ xs, DT w W0 g q b0 B V s xs Y := by
  have hcN : W.cell? ⟨B + 1, 0, none⟩ = some (.int .i64 V) := by simp [World.cell?, h0.2.2.c1]
  refine callsIn_of_wp Tryd.func72 rfl trivial ?_ rfl
  simp only [Tryd.ntmps72, List.size_toArray, List.length_cons, List.length_nil, Nat.reduceAdd, Nat.reduceSub, Array.replicate_succ, Array.replicate_zero, List.push_toArray, List.append_toArray, List.nil_append, List.cons_append]
  gi_wp2
  gi_loopw [7] (fun i wr => ∃ pre : List Txt, i = .int .i64 pre.length ∧ IT w W0 g q b0 B V s pre wr ∧ BK wr) (fun i _ => V - (intOf i).toNat)
  case atStart => exact ⟨[], rfl, h0, hb⟩
  case round =>
    obtain ⟨pre, rfl, hI, hB⟩ := hrel
    by_cases hlt : pre.length < V
    · have hcond : ((pre.length : Int) < V) := by omega
      have hf : wr.cell? ⟨B + 1 + 1, 0, none⟩ = some (.func (.func 44) #[] #[]) := by simp [World.cell?, hI.2.2.c2]
      have hg0 : wr.cell? ⟨B, 0, none⟩ = some (.pointer (some ⟨g, 0, none⟩)) := by simp [World.cell?, hI.2.2.c0]
      have hlen := Nat.le_trans (lstS_len s pre.length) hs
      have C := Lib.hid (one_any g q (lstS pre.length s) wr hI.2.2.rd hlen)
      gi_wp2_with fail
      refine ⟨trivial, (callsIn_wide.2 C.out).mono ?_⟩
      rintro e w1 ⟨rfl, hr, hk⟩
      clear C
      have hr' : RdQ w1 g q (lstS (pre.length + 1) s) := hr
      have hL := hI.2.2.read hw hsz hk hr'
      have hB1 := hBK _ _ hB (keepsFrom_of hk (fun i hi => by subst hi; exact hI.2.2.rd.isCells) W0.heap.size)
      have hg1 : w1.cell? ⟨B, 0, none⟩ = some (.pointer (some ⟨g, 0, none⟩)) := by simp [World.cell?, hL.c0]
      have hx : byV 300 (lstS pre.length s) = lstV pre.length s := rfl
      rw [hx]
      have hc1 := hr'.cell1
      have hM : MT w W0 g q b0 B V s pre (lstV pre.length s) w1 := ⟨hlt, hI.2.1, rfl, hL⟩
      generalize lstV pre.length s = x at *
      clear hr hx
      by_cases hbad : (lstS (pre.length + 1) s).2 = true
      · have hq := hr'.wrong hbad
        rw [hbad] at hc1
        gi_wp2
        refine ⟨fun _ h => (by cases h), ?_⟩
        gi_wp2
        refine bodyPost_ret (results_none rfl _ _ _) rfl ?_
        have e : ∃ j, V = (pre.length + 1) + j := ⟨V - (pre.length + 1), by omega⟩
        obtain ⟨j, e⟩ := e
        have hall : lstS V s = ([], true) := by rw [e]; exact lstS_wrong hq j
        refine ⟨⟨_, rfl⟩, hB1, pre, ?_, fun h => ?_⟩
        · rw [hall, ← hq]; exact hL
        · rw [hall] at h; cases h
      · have hfalse : (lstS (pre.length + 1) s).2 = false := by simpa using hbad
        rw [hfalse] at hc1
        obtain ⟨fn, tmps, assign, body, hy, hR⟩ := hY pre x w1 hM hB1
        gi_wp2
        refine hR.mono ?_
        rintro e w2 ⟨rfl, hI2, hB2⟩
        gi_wp2
        refine ⟨⟨pre ++ [x], by simp, hI2, hB2⟩, ?_⟩
        simp only [intOf]
        omega
    · have hcond : ¬ ((pre.length : Int) < V) := by omega
      gi_wp2
      go_end0
      have e : V = pre.length := by have := hI.1; omega
      refine ⟨⟨_, rfl⟩, hB, pre, ?_, fun _ => ?_⟩
      · have := hI.2.2
        rwa [← e] at this
      · have := hI.2.1
        rwa [← e] at this
theorem LI.cellBox {w W0 : World} {g q b0 B V : Nat} {st : List UInt8 × Bool} {pre : List Txt} {X : World} (h : LI w W0 g q b0 B V st pre X) : ∃ v, X.cell? ⟨b0, 0, none⟩ = some v ∧ X.frozen? ⟨b0, 0, none⟩ = false ∧ OwnT 9 X v (pre.map ba) ∧ NB W0 v ∧ X.heap[b0]? = some (.cells #[v] 31 (0, 0)) := by
  obtain ⟨v, h1, h2, h3⟩ := h.box
  exact ⟨v, by simp [World.cell?, h1], by simp [World.frozen?, h1], h2, h3, h1⟩
/-- One more text is appended: behind the world X, a block for the text, what append does, the box's store. -/
theorem LI.put {w W0 : World} {g q b0 B V : Nat} {st : List UInt8 × Bool} {pre : List Txt} {x : Txt} {X Y : World} {v v' : Value} (h : LI w W0 g q b0 B V st pre X) (hw : LW w W0 g q b0 B) (_hsz : w.heap.size ≤ W0.heap.size)
    (hv : X.heap[b0]? = some (.cells #[v] 31 (0, 0))) (ho : OwnT 9 X v (pre.map ba)) (hn : NB W0 v) (hg : (X.alloc (.cells #[.string (ba x)] 9)).grownBy Y v.ownBlock) (ho' : OwnT 9 Y v' (pre.map ba ++ [ba x])) (hf : v'.ownBlock = v.ownBlock ∨ v'.ownBlock = some (X.alloc (.cells #[.string (ba x)] 9)).heap.size) :
    LI w W0 g q b0 B V st (pre ++ [x]) (Y.setCell ⟨b0, 0, none⟩ v') ∧ KeepsFrom W0.heap.size X (Y.setCell ⟨b0, 0, none⟩ v') := by
  have hgl := hw.g
  have hql := hw.q
  have hbl := hw.b0
  have hBl := hw.B
  have hXs := h.size
  have k1 : Keep (fun i => v.ownBlock = some i) X Y := ((Keep.refl _ X).alloc _).grown hg (fun i e _ => e)
  have k2 : Keep (fun i => i = b0 ∨ v.ownBlock = some i) X (Y.setCell ⟨b0, 0, none⟩ v') := (k1.mono (fun i _ e => .inr e)).setCell (.inr (.inl rfl)) v'
  have hno : ∀ i, v.ownBlock = some i → W0.heap.size ≤ i := hn
  have hY0 : Y.heap[b0]? = some (.cells #[v] 31 (0, 0)) := (k1.block b0 (lt_of_block hv) (fun e => by have := hno _ e; omega)).trans hv
  have hn' : NB W0 v' := fun i e => by
    rcases hf with e' | e'
    · exact hno i (e' ▸ e)
    · rw [e'] at e
      injection e with e
      rw [World.size_alloc] at e
      omega
  refine ⟨⟨h.rd.kept k2 (by rintro (e | e); omega; have := hno _ e; omega) (by rintro (e | e); omega; have := hno _ e; omega), ⟨v', ?_, ?_, hn'⟩, ?_, ?_, ?_, ?_, ?_⟩, ?_⟩
  · exact heap_setCell_same Y b0 0 _ _ v' hY0
  · rw [List.map_append]
    refine ho'.kept (Keep.ofSet (S := fun i => i = b0) rfl v') (fun i e e0 => ?_)
    subst e0
    have := hn' _ e
    omega
  · exact (k2.block B (lt_of_block h.c0) (by rintro (e | e); omega; have := hno _ e; omega)).trans h.c0
  · exact (k2.block _ (lt_of_block h.c1) (by rintro (e | e); omega; have := hno _ e; omega)).trans h.c1
  · exact (k2.block _ (lt_of_block h.c2) (by rintro (e | e); omega; have := hno _ e; omega)).trans h.c2
  · exact h.keep.trans k2 (fun i hi e => by rcases e with e | e; omega; have := hno _ e; omega)
  · exact Nat.le_trans h.size k2.size
  · refine keepsFrom_of k2 (fun i e => ?_) _
    rcases e with rfl | e
    · exact ⟨_, _, _, hv⟩
    · obtain ⟨cs, e2⟩ := ho.cells_ e
      exact ⟨_, _, _, e2⟩
theorem box_grown {W0 X Y : World} {b0 : Nat} {v : Value} {o : Obj} (hv : X.heap[b0]? = some (.cells #[v] 31 (0, 0))) (hn : NB W0 v) (hb : b0 < W0.heap.size) (hg : (X.alloc o).grownBy Y v.ownBlock) : Y.cell? ⟨b0, 0, none⟩ = some v ∧ Y.frozen? ⟨b0, 0, none⟩ = false := by
  have k1 : Keep (fun i => v.ownBlock = some i) X Y := ((Keep.refl _ X).alloc _).grown hg (fun i e _ => e)
  have h := (k1.block b0 (lt_of_block hv) (fun e => by have := hn _ e; omega)).trans hv
  exact ⟨by simp [World.cell?, h], by simp [World.frozen?, h]⟩
theorem cntV_le (most : Int) (s : List UInt8 × Bool) (h : 0 ≤ most) : (cntV most s : Int) ≤ most := by
  unfold cntV
  by_cases hb : cntBad most s
  · rw [if_pos hb]; simpa using h
  · rw [if_neg hb]
    unfold cntBad at hb
    omega
/-- Texts that were taken: none of them, where the reader has gone wrong. -/
noncomputable def lstX (most : Int) (s : List UInt8 × Bool) : List Txt := if (lstS (cntV most s) (cntS most s)).2 then [] else lstN (cntV most s) (cntS most s)
noncomputable def lstE (most : Int) (s : List UInt8 × Bool) : List UInt8 × Bool := lstS (cntV most s) (cntS most s)
/-- A row of texts that has come, in memory of its own; the reader behind them. -/
def ListP (w : World) (g q : Nat) (xs : List Txt) (st : List UInt8 × Bool) (e : Ending) (w' : World) : Prop :=
  ∃ A c, e = .returned (.slice A xs.length c) ∧ Strs w' w'.heap.size A (xs.map ba) ∧ xs.length ≤ c ∧ (∀ a : Addr, A = some a → w.heap.size ≤ a.block) ∧ RdQ w' g q st ∧ Keep (fun k => k = g) w w'
set_option maxRecDepth 100000 in
set_option maxHeartbeats 2000000 in
theorem list_any (g q : Nat) (s : List UInt8 × Bool) (most : Int) (w : World) (h : RdQ w g q s) (hb : s.1.length ≤ 70368744177664) (hql : q < w.heap.size) (h0 : 0 ≤ most) (h1 : most ≤ 1000) :
    Calls Tryd.prog 45 #[.pointer (some ⟨g, 0, none⟩), .int .i64 most, .func (.func 44) #[] #[]] w (ListP w g q (lstX most s) (lstE most s)) := by
  have hglt := h.lt
  have kA : Keep (fun _ => False) w (w.alloc (.cells #[.slice none 0 0] 31)) := (Keep.refl _ w).alloc _
  have C := Lib.hid (count_q g q s most _ (h.kept kA (fun h => h) (fun h => h)) hb)
  have hVm := cntV_le most s h0
  have hsl := Nat.le_trans (cnt_len most s) hb
  obtain ⟨xs0, hxs0⟩ : ∃ xs0, Hid (lstX most s = xs0) := ⟨_, rfl⟩
  obtain ⟨st0, hst0⟩ : ∃ st0, Hid (lstE most s = st0) := ⟨_, rfl⟩
  rw [hxs0.out, hst0.out]
  unfold lstX at hxs0
  unfold lstE at hst0
  generalize cntV most s = V at *
  generalize cntS most s = s1 at *
  refine (callsIn_wide (n := 3)).1 ?_
  refine callsIn_of_wp_marks Tryd.func45 rfl trivial ?_ rfl
  simp only [Tryd.ntmps45, List.size_toArray, List.length_cons, List.length_nil, Nat.reduceAdd, Nat.reduceSub, Array.replicate_succ, Array.replicate_zero, List.push_toArray, List.append_toArray, List.nil_append, List.cons_append]
  gi_wp2_with (first
    | (refine ⟨trivial, ?_⟩; gi_at_call 60; refine (callsIn_wide.2 C.out).mono ?_; rintro e w1 ⟨rfl, hr, hk⟩)
    | (refine ⟨trivial, ?_⟩; gi_at_call 61; refine (callsIn_wide.2 (thingsT_any g _ _ _ w1)).mono ?_; rintro e w2 ⟨rfl, rfl⟩))
  have hz : (w.alloc (.cells #[.slice none 0 0] 31)).heap.size = w.heap.size + 1 := by simp
  have hsz1 : w.heap.size + 1 ≤ w1.heap.size := by have := hk.size; rw [hz] at this; exact this
  have hbox1 : w1.heap[w.heap.size]? = some (.cells #[.slice none 0 0] 31 (0, 0)) := (hk.block _ (by rw [hz]; omega) (by omega)).trans (World.alloc_heap_new w _)
  obtain ⟨W0, hW0⟩ : ∃ W0, (((w1.alloc (.cells #[.pointer (some ⟨g, 0, none⟩)] 84)).alloc (.cells #[.int .i64 V] 3)).alloc (.cells #[.func (.func 44) #[] #[]] 89)) = W0 := ⟨_, rfl⟩
  have hk0 : Keep (fun _ => False) w1 W0 := by rw [← hW0]; exact (((Keep.refl _ w1).alloc _).alloc _).alloc _
  have hz0 : W0.heap.size = w1.heap.size + 1 + 1 + 1 := by rw [← hW0]; simp
  have hc0 : W0.heap[w1.heap.size]? = some (.cells #[.pointer (some ⟨g, 0, none⟩)] 84 (0, 0)) := by
    rw [← hW0, Below.heap_alloc _ _ _ (by simp; omega), Below.heap_alloc _ _ _ (by simp)]
    exact World.alloc_heap_new w1 _
  have hc1 : W0.heap[w1.heap.size + 1]? = some (.cells #[.int .i64 V] 3 (0, 0)) := by
    rw [← hW0, Below.heap_alloc _ _ _ (by simp)]
    have := World.alloc_heap_new (w1.alloc (.cells #[.pointer (some ⟨g, 0, none⟩)] 84)) (.cells #[.int .i64 V] 3)
    rwa [World.size_alloc] at this
  have hc2 : W0.heap[w1.heap.size + 1 + 1]? = some (.cells #[.func (.func 44) #[] #[]] 89 (0, 0)) := by
    rw [← hW0]
    have := World.alloc_heap_new ((w1.alloc (.cells #[.pointer (some ⟨g, 0, none⟩)] 84)).alloc (.cells #[.int .i64 V] 3)) (.cells #[.func (.func 44) #[] #[]] 89)
    rwa [World.size_alloc, World.size_alloc] at this
  rw [hW0]
  clear hW0
  have hw : LW w W0 g q w.heap.size w1.heap.size := ⟨hglt, hql, ⟨Nat.le_refl _, by omega⟩, by omega⟩
  have hsz : w.heap.size ≤ W0.heap.size := by omega
  have hL0 : LI w W0 g q w.heap.size w1.heap.size V s1 [] W0 := ⟨hr.kept hk0 (fun h => h) (fun h => h), ⟨_, (hk0.block _ (lt_of_block hbox1) (fun h => h)).trans hbox1, World.ownsRow_nil _ _ _ _, NB.nil _⟩, hc0, hc1, hc2, ((kA.mono (fun _ _ h => h.elim)).trans hk (fun _ _ h => h)).trans hk0 (fun _ _ h => h.elim), Nat.le_refl _⟩
  have hst : ∀ st pre, Stands W0.heap.size (LI w W0 g q w.heap.size w1.heap.size V st pre) := fun st pre => LI.stands hw hsz
  refine range_law rfl (by omega) (gf := 72) (lb := #[.pointer (some ⟨w1.heap.size + 1, 0, none⟩), .pointer (some ⟨w1.heap.size + 1 + 1, 0, none⟩), .pointer (some ⟨w1.heap.size, 0, none⟩)]) rfl trivial (enters_of Tryd.func72 (by kernel_rfl) rfl)
    (encs := fun x : Txt => #[.string (ba x)]) (fun _ => rfl) (IT w W0 g q w.heap.size w1.heap.size V s1) (MT w W0 g q w.heap.size w1.heap.size V s1) (DT w W0 g q w.heap.size w1.heap.size V s1)
    (fun pre X k o o' a b c h => ⟨h.1, h.2.1, hst _ _ X k o o' a b c h.2.2⟩) (fun pre x X k o o' a b c h => ⟨h.1, h.2.1, h.2.2.1, hst _ _ X k o o' a b c h.2.2.2⟩) (fun xs X k o o' a b c h => ⟨hst _ _ X k o o' a b c h.1, h.2⟩)
    (fun o o' => ⟨Nat.zero_le _, rfl, hL0.kept (((Keep.refl (fun _ => False) W0).alloc o).alloc o') (fun h => h) (fun h => h) (fun h => h) (fun h => h) (fun h => h) (fun h => h) (fun _ _ h => h.elim) (fun _ _ _ _ h => h)⟩)
    (fun x => { tmps := #[.pointer (some ⟨g, 0, none⟩), .int .i64 most, .func (.func 44) #[] #[], undef, undef, undef, .slice none 0 0, .pointer (some ⟨w.heap.size, 0, none⟩), .string (ba x), .pointer (some ⟨g, 0, none⟩), .pointer (some ⟨g, 0, none⟩), .int .i64 most, .int .i64 V, .func (.func 44) #[] #[], iterT w1.heap.size, .string (ba x), undef, undef, undef, undef, undef, undef, undef, undef, undef], defers := [] }) ?assign ?body ?iter ?done
  case assign =>
    intro l x W K hK
    gi_wp2
    exact hK
  case iter =>
    intro l W BK hBK hY hI hB
    exact iter_T w W0 g q w.heap.size w1.heap.size V s1 hw hsz (by omega) hsl l BK hBK hY W hI hB
  case body =>
    rintro l pre x W ⟨hlt, hpre, hx, hL⟩
    obtain ⟨v, hvc, hvf, hvo, hvn, hvb⟩ := hL.cellBox
    replace hpre := Lib.hid hpre
    replace hx := Lib.hid hx
    gi_wp2_with (gi_at_builtin; refine wpListIn_append_str _ rfl _ _ _ rfl strsT v (pre.map ba) rfl (hvo.alloc _) (W.heap.size + 1) (some ⟨W.heap.size, 0, none⟩) 1 1 [ba x] rfl rfl (strs_one W _ _) (by simp; omega) ?_; intro v' Y ho' hg hf; obtain ⟨hYc, hYf⟩ := box_grown hvb hvn (by omega) hg; obtain ⟨A', c', rfl, _⟩ := id ho'.shape)
    have P := hL.put hw hsz hvb hvo hvn hg ho' hf
    have hlen : (pre.map ba ++ [ba x]).length = pre.length + 1 := by simp
    have hlen' : (pre ++ [x]).length = pre.length + 1 := by simp
    rw [hlen] at P
    rw [← hz0]
    refine ⟨P.2, by rw [hlen']; omega, ?_, ?_⟩
    · rw [hlen', lstN_succ, ← hpre.out, ← hx.out]
    · rw [hlen']; exact P.1
  case done =>
    rintro D xs X hD ⟨hL, hxs⟩ hK
    obtain ⟨v, hvc, hvf, hvo, hvn, hvb⟩ := hL.cellBox
    have hc := hL.rd.cell1
    have kD := keep_put X D (.deferred none)
    have hr2 := hL.rd.kept kD (by omega) (by omega)
    have hkF := hL.keep.trans kD (fun i hi e => by omega)
    have hoD := hvo.kept kD (fun i hi e => by
      obtain ⟨cs, e2⟩ := hvo.cells_ hi
      rw [e, hK] at e2
      cases e2)
    generalize lstS V s1 = st at *
    obtain rfl := hst0.out
    by_cases hbad : st.2 = true
    · rw [hbad] at hc
      gi_wp2
      refine ⟨by simp, .inl ⟨_, _, rfl, run_takeDeferred hK, ?_⟩⟩
      refine ⟨_, results_tmp rfl _ _ _, ?_⟩
      have hx0 := hxs0.out
      rw [if_pos hbad] at hx0
      subst hx0
      exact ⟨none, 0, rfl, Strs.nil, Nat.le_refl _, (fun a h => nomatch h), hr2, hkF⟩
    · have hfalse : st.2 = false := by simpa using hbad
      rw [hfalse] at hc
      have hxs := hxs hfalse
      gi_wp2
      refine ⟨by simp, .inl ⟨_, _, rfl, run_takeDeferred hK, ?_⟩⟩
      refine ⟨_, results_tmp rfl _ _ _, ?_⟩
      have hx0 := hxs0.out
      rw [if_neg hbad, ← hxs] at hx0
      subst hx0
      obtain ⟨A, c, rfl, hlc, _, hS, _⟩ := hoD.shape
      simp only [List.length_map] at hlc ⊢
      refine ⟨A, c, rfl, hS, hlc, fun a ha => ?_, hr2, hkF⟩
      subst ha
      have := hvn a.block (by simp [Value.ownBlock])
      omega
end Go.Proofs.YtlkiaghpdjbfeaaDoor
