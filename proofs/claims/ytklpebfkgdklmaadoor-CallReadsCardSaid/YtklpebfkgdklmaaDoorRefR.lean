/-
  WALKS: the reference's reader: Number, Count, Bytes, End. It answers as the program's does.
-/
import Derived.Test.YtklpebfkgdklmaaDoorRef
import Derived.Test.YtklpebfkgdklmaaDoorOctB
import Derived.Test.YtklpebfkgdklmaaDoorRefSum
import Derived.Test.YtklpebfkgdklmaaDoorText
import Derived.Test.YtklpebfkgdklmaaDoorDec
import Derived.BigQuiet
namespace Go.Proofs.YtklpebfkgdklmaaDoor
open Go.RowKit

/-- The reference's reader lies in block g: bytes L, a place, whether it has gone wrong. -/
structure Rf (w : World) (g : Nat) (A : Option Addr) (c : Nat) (L : List UInt8) (a : Nat) (bad : Bool) : Prop where
  block : w.heap[g]? = some (.cells #[.slice A L.length c, .int .i64 a, .bool bad] 82 (0, 0))
  rd : Rd w w.heap.size A L
  cap : L.length ≤ c ∧ c ≤ maxLen
  le : a ≤ L.length
  few : L.length ≤ 35184372088832
section
variable {w w' : World} {g : Nat} {A : Option Addr} {c : Nat} {L : List UInt8} {a : Nat} {bad : Bool}
theorem Rf.lt (h : Rf w g A c L a bad) : g < w.heap.size := lt_of_block h.block
theorem Rf.cell0 (h : Rf w g A c L a bad) : w.cell? ⟨g, 0, none⟩ = some (.slice A L.length c) := by simp [World.cell?, h.block]
theorem Rf.cell1 (h : Rf w g A c L a bad) : w.cell? ⟨g, 1, none⟩ = some (.int .i64 a) := by simp [World.cell?, h.block]
theorem Rf.cell2 (h : Rf w g A c L a bad) : w.cell? ⟨g, 2, none⟩ = some (.bool bad) := by simp [World.cell?, h.block]
theorem Rf.free (h : Rf w g A c L a bad) (i : Nat) : w.frozen? ⟨g, i, none⟩ = false := by simp [World.frozen?, h.block]
theorem Rf.no {A : Option Addr} {n c : Nat} {z : Int} {bad : Bool} : ∀ x ∈ (#[Value.slice A n c, .int .i64 z, .bool bad] : Array Value).toList, ∀ z, x ≠ .int .u8 z := by
  intro x hx z he
  subst he
  simp at hx
theorem Rf.drewN (h : Rf w g A c L a bad) (n : Nat) : Rf (w.drewN n) g A c L a bad := ⟨h.block, h.rd.drewN n, h.cap, h.le, h.few⟩
theorem Rf.kept (h : Rf w g A c L a bad) (k : KF w w') : Rf w' g A c L a bad := ⟨(k.block g h.lt (fun h => h)).trans h.block, (h.rd.keepF k (Nat.le_refl _)).more k.size, h.cap, h.le, h.few⟩
theorem Rf.wrong (h : Rf w g A c L a bad) : Rf (w.setCell ⟨g, 2, none⟩ (.bool true)) g A c L a true :=
  ⟨heap_setCell_same w g 2 _ _ _ h.block, by rw [show (w.setCell ⟨g, 2, none⟩ (.bool true)).heap.size = w.heap.size by simp [World.setCell]]; exact h.rd.store h.block Rf.no 2 _, h.cap, h.le, h.few⟩
theorem Rf.on (h : Rf w g A c L a bad) {b : Nat} (hb : b ≤ L.length) : Rf (w.setCell ⟨g, 1, none⟩ (.int .i64 b)) g A c L b bad :=
  ⟨heap_setCell_same w g 1 _ _ _ h.block, by rw [show (w.setCell ⟨g, 1, none⟩ (.int .i64 b)).heap.size = w.heap.size by simp [World.setCell]]; exact h.rd.store h.block Rf.no 1 _, h.cap, hb, h.few⟩
end
/-- A reader of the reference with s left, as the program's is told. -/
def RfA (w : World) (g : Nat) (A : Option Addr) (c : Nat) (L : List UInt8) (s : List UInt8 × Bool) : Prop := ∃ a, Rf w g A c L a s.2 ∧ s.1 = if s.2 then [] else L.drop a
def RfE (w : World) (g : Nat) (s : List UInt8 × Bool) : Prop := ∃ A c L, RfA w g A c L s
def TookA (w : World) (g : Nat) (A : Option Addr) (c : Nat) (L : List UInt8) (v : Value) (s' : List UInt8 × Bool) (e : Ending) (w' : World) : Prop := e = .returned v ∧ RfA w' g A c L s' ∧ Keep (fun k => k = g) w w'
def TookF (w : World) (g : Nat) (v : Value) (s' : List UInt8 × Bool) (e : Ending) (w' : World) : Prop := e = .returned v ∧ RfE w' g s' ∧ Keep (fun k => k = g) w w'
theorem TookA.f {w w' : World} {g : Nat} {A : Option Addr} {c : Nat} {L : List UInt8} {v : Value} {s' : List UInt8 × Bool} {e : Ending} (h : TookA w g A c L v s' e w') : TookF w g v s' e w' := ⟨h.1, ⟨A, c, L, h.2.1⟩, h.2.2⟩
theorem RfE.lt {w : World} {g : Nat} {s : List UInt8 × Bool} (h : RfE w g s) : g < w.heap.size := by
  obtain ⟨A, c, L, a, h, _⟩ := h
  exact h.lt
theorem tk_bad (n : Nat) (l : List UInt8) : tkL n l true = [] ∧ tk n (l, true) = ([], true) := by simp [tkL, tk, tkR, tkB]
theorem tk_few {n : Nat} {l : List UInt8} (h : l.length < n) : tkL n l false = [] ∧ tk n (l, false) = ([], true) := by simp [tkL, tk, tkR, tkB, h]
theorem tk_some {n : Nat} {l : List UInt8} (h : n ≤ l.length) : tkL n l false = l.take n ∧ tk n (l, false) = (l.drop n, false) := by
  have : ¬ l.length < n := by omega
  simp [tkL, tk, tkR, tkB, this]
theorem went {w : World} {g : Nat} {A : Option Addr} {c : Nat} {L : List UInt8} {a : Nat} {bad : Bool} (h : Rf w g A c L a bad) (nq : Nat) {v : Value} : TookA w g A c L v ([], true) (.returned v) ((w.drewN nq).setCell ⟨g, 2, none⟩ (.bool true)) :=
  ⟨rfl, ⟨a, (h.drewN nq).wrong, rfl⟩, ((Keep.refl (fun k => k = g) w).drewN nq).setCell (.inr rfl) _⟩
theorem went_on {w : World} {g : Nat} {A : Option Addr} {c : Nat} {L : List UInt8} {a : Nat} (h : Rf w g A c L a false) (nq : Nat) {v : Value} {n : Nat} (hn : a + n ≤ L.length) : TookA w g A c L v ((L.drop a).drop n, false) (.returned v) ((w.drewN nq).setCell ⟨g, 1, none⟩ (.int .i64 ((a : Int) + (n : Int)))) :=
  ⟨rfl, ⟨a + n, by rw [← Int.natCast_add]; exact (h.drewN nq).on hn, by simp⟩, ((Keep.refl (fun k => k = g) w).drewN nq).setCell (.inr rfl) _⟩
set_option maxHeartbeats 1000000 in
theorem rnumber_bad (g : Nat) (A : Option Addr) (c : Nat) (L : List UInt8) (a : Nat) (bad : Bool) (n : Nat) (w : World) (h : Rf w g A c L a bad) (hn : n ≤ 8) (hbad : bad = true ∨ L.length - a < n) :
    Calls Tryd.prog 48 #[.pointer (some ⟨g, 0, none⟩), .int .i64 n] w (TookA w g A c L (.int .u64 0) ([], true)) := by
  have h0 := h.cell0
  have h1 := h.cell1
  have h2 := h.cell2
  have hf2 := h.free 2
  have hle := h.le
  have hfew := h.few
  have d1 : decide ((8 : Int) < (n : Int)) = false := by simp; omega
  have d2 : decide ((n : Int) < 0) = false := by simp
  have FIN := Lib.hid h
  clear h
  generalize L.length = ln at *
  go_enter Tryd.func48, Tryd.ntmps48
  cases bad
  · have hlt : ln - a < n := by rcases hbad with h | h; cases h; exact h
    have d3 : decide ((ln : Int) - (a : Int) < (n : Int)) = true := by simp; omega
    go_wp2
    go_quiet (fail)
    go_wp2
    go_ret
    exact went FIN.out nq
  · go_wp2
    go_quiet (fail)
    go_wp2
    go_ret
    exact went FIN.out nq
theorem num_more {M : List UInt8} {k : Nat} (h : k < M.length) : num (M.take (k + 1)) = 256 * num (M.take k) + M[k].toNat := by
  rw [List.take_succ_eq_append_getElem h, num_snoc]
  omega
set_option maxHeartbeats 1000000 in
theorem rnumber_good (g : Nat) (A : Option Addr) (c : Nat) (L : List UInt8) (a : Nat) (n : Nat) (w : World) (h : Rf w g A c L a false) (hn : n ≤ 8) (hg : n ≤ L.length - a) :
    Calls Tryd.prog 48 #[.pointer (some ⟨g, 0, none⟩), .int .i64 n] w (TookA w g A c L (.int .u64 (num ((L.drop a).take n) : Nat)) ((L.drop a).drop n, false)) := by
  have h0 := h.cell0
  have h1 := h.cell1
  have h2 := h.cell2
  have hf1 := h.free 1
  have hle := h.le
  have hfew := h.few
  have hcap := h.cap
  simp only [maxLen] at hcap
  have d1 : decide ((8 : Int) < (n : Int)) = false := by simp; omega
  have d2 : decide ((n : Int) < 0) = false := by simp
  have hml : (L.drop a).length = L.length - a := by simp
  have HA : Hid (∀ k b, (L.drop a)[k]? = some b → ∃ ad : Addr, A = some ad ∧ w.cell? (ad.add (a + k)) = some (.int .u8 b.toNat)) := fun k b hk => by
    rw [List.getElem?_drop] at hk
    obtain ⟨ad, e, _, hc⟩ := h.rd (a + k) b hk
    exact ⟨ad, e, hc⟩
  have FIN := Lib.hid fun nq v => went_on h nq (v := v) (n := n) (by omega)
  have hnl : n ≤ (L.drop a).length := by omega
  clear h hml
  generalize L.drop a = M at *
  generalize hln : L.length = ln at *
  clear hln
  have d3 : decide ((ln : Int) - (a : Int) < (n : Int)) = false := by simp; omega
  go_enter Tryd.func48, Tryd.ntmps48
  go_wp2
  go_quiet (fail)
  go_wp2
  go_loopw [5, 6] (fun v i wr => ∃ k q v1 : Nat, k ≤ n ∧ i = .int .i64 k ∧ Hid (v1 = num (M.take k)) ∧ v = .int .u64 v1 ∧ wr = w.drewN q) (fun _ i _ => n - (intOf i).toNat)
  case atStart => exact ⟨0, _, 0, Nat.zero_le _, rfl, rfl, rfl, rfl⟩
  case round =>
    obtain ⟨k, q, v1, hk1, rfl, HV, rfl, rfl⟩ := hrel
    by_cases hlt : k < n
    · have hkM : k < M.length := by omega
      obtain ⟨ad, rfl, hcell⟩ := HA.out k M[k] (List.getElem?_eq_getElem hkM)
      have hb1 := M[k].toNat_lt
      have hv1 : v1 < 72057594037927936 := by rw [HV.out]; exact num_lt7 _ (by simp; omega)
      have HN : Hid (num (M.take (k + 1)) = 256 * v1 + M[k].toNat) := Lib.hid (by rw [HV.out]; exact num_more (by omega))
      generalize M[k].toNat = b at *
      go_wp2
      go_quiet (fail)
      go_wp2
      go_roundw
      case rel => exact ⟨k + 1, _, 256 * v1 + b, by omega, by go_num, HN.out.symm, by simp, rfl⟩
      case measure => simp [intOf]; omega
    · obtain rfl : k = n := by omega
      go_wp2
      go_ret
      rw [← HV.out]
      exact FIN.out q _
theorem rnumber_A (g : Nat) (A : Option Addr) (c : Nat) (L : List UInt8) (s : List UInt8 × Bool) (n : Nat) (w : World) (h : RfA w g A c L s) (hn : n ≤ 8) :
    Calls Tryd.prog 48 #[.pointer (some ⟨g, 0, none⟩), .int .i64 n] w (TookA w g A c L (.int .u64 (num (tkL n s.1 s.2) : Nat)) (tk n s)) := by
  obtain ⟨a, h, hs⟩ := h
  obtain ⟨l, bad⟩ := s
  cases bad
  · have hl : l = L.drop a := hs
    subst hl
    by_cases hlt : L.length - a < n
    · obtain ⟨e1, e2⟩ := tk_few (n := n) (l := L.drop a) (by simpa using hlt)
      simp only
      rw [e1, e2]
      exact rnumber_bad g A c L a false n w h hn (.inr hlt)
    · obtain ⟨e1, e2⟩ := tk_some (n := n) (l := L.drop a) (by simp; omega)
      simp only
      rw [e1, e2]
      exact rnumber_good g A c L a n w h hn (by omega)
  · obtain ⟨e1, e2⟩ := tk_bad n l
    simp only
    rw [e1, e2]
    exact rnumber_bad g A c L a true n w h hn (.inl rfl)
theorem rnumber_any (g : Nat) (s : List UInt8 × Bool) (n : Nat) (w : World) (h : RfE w g s) (hn : n ≤ 8) :
    Calls Tryd.prog 48 #[.pointer (some ⟨g, 0, none⟩), .int .i64 n] w (TookF w g (.int .u64 (num (tkL n s.1 s.2) : Nat)) (tk n s)) := by
  obtain ⟨A, c, L, h⟩ := h
  exact (rnumber_A g A c L s n w h hn).mono fun _ _ h => h.f
theorem RfA.cells {w : World} {g : Nat} {A : Option Addr} {c : Nat} {L : List UInt8} {s : List UInt8 × Bool} (h : RfA w g A c L s) : w.cell? ⟨g, 2, none⟩ = some (.bool s.2) ∧ w.frozen? ⟨g, 2, none⟩ = false := by
  obtain ⟨a, h, _⟩ := h
  exact ⟨h.cell2, h.free 2⟩
theorem RfA.wrong {w : World} {g : Nat} {A : Option Addr} {c : Nat} {L : List UInt8} {s : List UInt8 × Bool} (h : RfA w g A c L s) : RfA (w.setCell ⟨g, 2, none⟩ (.bool true)) g A c L ([], true) := by
  obtain ⟨a, h, _⟩ := h
  exact ⟨a, h.wrong, rfl⟩
theorem RfE.cells {w : World} {g : Nat} {s : List UInt8 × Bool} (h : RfE w g s) : w.cell? ⟨g, 2, none⟩ = some (.bool s.2) ∧ w.frozen? ⟨g, 2, none⟩ = false := by
  obtain ⟨A, c, L, h⟩ := h
  exact h.cells
set_option maxHeartbeats 400000 in
theorem rcount_A (g : Nat) (A : Option Addr) (c : Nat) (L : List UInt8) (s : List UInt8 × Bool) (most : Int) (w : World) (h : RfA w g A c L s) (hm : 0 ≤ most) :
    Calls Tryd.prog 51 #[.pointer (some ⟨g, 0, none⟩), .int .i64 most] w (TookA w g A c L (.int .i64 (cntV most s : Nat)) (cntS most s)) := by
  have C := Lib.hid (rnumber_A g A c L s 4 w h (by omega))
  rw [show ((4 : Nat) : Int) = 4 from rfl] at C
  have hx := num_le4 4 s (by omega)
  have h0 : (tk 4 s).2 = true → num (tkL 4 s.1 s.2) = 0 ∧ tk 4 s = ([], true) := fun hb => by
    unfold tk tkB at hb
    simp only at hb
    by_cases hc : s.2 = true ∨ s.1.length < 4
    · unfold tk tkL tkR tkB
      rw [if_pos hc, if_pos hc, if_pos hc]
      exact ⟨rfl, rfl⟩
    · rw [if_neg hc] at hb
      cases hb
  have HB : Hid (∀ v, cntBad most s → cntV most s = 0 ∧ cntS most s = v ∨ cntS most s = ([], true)) := Lib.hid fun v hb => .inr (by unfold cntS; rw [if_pos hb])
  have HV : Hid (most < (num (tkL 4 s.1 s.2) : Int) → cntV most s = 0 ∧ cntS most s = ([], true)) := Lib.hid fun hb => by unfold cntV cntS; rw [if_pos (.inr hb), if_pos (.inr hb)]; exact ⟨rfl, rfl⟩
  have HW : Hid (¬ most < (num (tkL 4 s.1 s.2) : Int) → cntV most s = num (tkL 4 s.1 s.2) ∧ cntS most s = tk 4 s) := Lib.hid fun hb => by
    unfold cntV cntS cntBad
    by_cases hc : (tk 4 s).2 = true
    · obtain ⟨e1, e2⟩ := h0 hc
      rw [if_pos (.inl hc), if_pos (.inl hc), e1, e2]
      exact ⟨rfl, rfl⟩
    · rw [if_neg (by rintro (h | h); exact hc h; exact hb h), if_neg (by rintro (h | h); exact hc h; exact hb h)]
      exact ⟨rfl, rfl⟩
  clear h0 HB
  generalize num (tkL 4 s.1 s.2) = x at *
  generalize tk 4 s = s1 at *
  generalize cntV most s = V at *
  generalize cntS most s = S at *
  have hxw : IntKind.i64.wrap (x : Int) = x := by rw [IntKind.wrap_i64]; omega
  have hxw2 : wrap64 (x : Int) = x := IntWalk.wrap64_in _ ⟨by omega, by omega⟩
  go_enter Tryd.func51, Tryd.ntmps51
  go_wp2_with fail
  refine C.out.mono ?_
  rintro e w1 ⟨rfl, hr, hk⟩
  obtain ⟨h2, hf2⟩ := hr.cells
  by_cases hb : most < (x : Int)
  · obtain ⟨rfl, rfl⟩ := HV.out hb
    have d1 : decide (most < (x : Int)) = true := by simp [hb]
    go_wp2
    go_ret
    exact ⟨rfl, hr.wrong, hk.setCell (.inr rfl) _⟩
  · have d1 : decide (most < (x : Int)) = false := by simp; omega
    obtain ⟨rfl, rfl⟩ := HW.out (by omega)
    go_wp2
    go_ret
    exact ⟨rfl, hr, hk⟩
theorem rcount_any (g : Nat) (s : List UInt8 × Bool) (most : Int) (w : World) (h : RfE w g s) (hm : 0 ≤ most) :
    Calls Tryd.prog 51 #[.pointer (some ⟨g, 0, none⟩), .int .i64 most] w (TookF w g (.int .i64 (cntV most s : Nat)) (cntS most s)) := by
  obtain ⟨A, c, L, h⟩ := h
  exact (rcount_A g A c L s most w h hm).mono fun _ _ h => h.f
set_option maxHeartbeats 400000 in
theorem rend_any (g : Nat) (s : List UInt8 × Bool) (w : World) (h : RfE w g s) :
    Calls Tryd.prog 50 #[.pointer (some ⟨g, 0, none⟩)] w fun e w' => e = .returned (.int .i64 (endOf s)) ∧ ∃ nq, w.drewN nq = w' := by
  obtain ⟨A, c, L, a, h, hs⟩ := h
  obtain ⟨l, bad⟩ := s
  have h0 := h.cell0
  have h1 := h.cell1
  have h2 := h.cell2
  have hle := h.le
  have hfew := h.few
  cases bad
  · have hl : l = L.drop a := hs
    have HE : Hid (a < L.length → endOf (l, false) = 3) := Lib.hid fun hlt => by unfold endOf; rw [if_pos (.inr (by show 0 < l.length; rw [hl, List.length_drop]; omega))]
    have HE2 : Hid (¬ a < L.length → endOf (l, false) = 0) := Lib.hid fun hlt => by unfold endOf; rw [if_neg (by rw [hl]; simp; omega)]
    clear h hl hs
    generalize endOf (l, false) = z at *
    generalize L.length = ln at *
    go_enter Tryd.func50, Tryd.ntmps50
    by_cases hlt : a < ln
    · obtain rfl := HE.out hlt
      have d1 : decide ((a : Int) < (ln : Int)) = true := by simp [hlt]
      go_wp2
      go_quiet (fail)
      go_wp2
      go_ret
      exact ⟨rfl, _, rfl⟩
    · obtain rfl := HE2.out (by omega)
      have d1 : decide ((a : Int) < (ln : Int)) = false := by simp; omega
      go_wp2
      go_quiet (fail)
      go_wp2
      go_ret
      exact ⟨rfl, _, rfl⟩
  · have HE : Hid (endOf (l, true) = 3) := Lib.hid (by unfold endOf; rw [if_pos (.inl rfl)])
    clear h hs
    generalize endOf (l, true) = z at *
    obtain rfl := HE.out
    go_enter Tryd.func50, Tryd.ntmps50
    go_wp2
    go_quiet (fail)
    go_wp2
    go_ret
    exact ⟨rfl, _, rfl⟩
end Go.Proofs.YtklpebfkgdklmaaDoor
