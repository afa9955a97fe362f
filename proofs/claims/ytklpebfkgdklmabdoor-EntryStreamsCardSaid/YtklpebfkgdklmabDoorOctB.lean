/-
  WALKS of package octet, the reader's other calls: count, Bytes, Byte, Int, Flag, Left, End; the writer's count, Bytes, Flag, Int.
-/
import Derived.Test.YtklpebfkgdklmabDoorOctR
namespace Go.Proofs.YtklpebfkgdklmabDoor
open Go.RowKit

/-- A reader with l left, gone wrong if bad. -/
def RdE (w : World) (g : Nat) (s : List UInt8 × Bool) : Prop := ∃ A c, Rr w g A c s.1 s.2
/-- What a reader is behind a number of n bytes was asked for. -/
def tk (n : Nat) (s : List UInt8 × Bool) : List UInt8 × Bool := (tkR n s.1 s.2, tkB n s.1 s.2)
theorem RdE.lt {w : World} {g : Nat} {s : List UInt8 × Bool} (h : RdE w g s) : g < w.heap.size := by
  obtain ⟨A, c, h⟩ := h
  exact h.lt
theorem RdE.nil {w : World} {g : Nat} {s : List UInt8 × Bool} (h : RdE w g s) : s.2 = true → s.1 = [] := by
  obtain ⟨A, c, h⟩ := h
  exact h.nil
/-- A reader stands, if neither its block nor what it reads is touched. -/
theorem RdE.kept {w w' : World} {g : Nat} {s : List UInt8 × Bool} (h : RdE w g s) (hk : Keep (fun _ => False) w w') : RdE w' g s := by
  obtain ⟨A, c, h⟩ := h
  exact ⟨A, c, (hk.block g h.lt (fun h => h)).trans h.block, (h.rd.keepF hk (Nat.le_refl _)).more hk.size, h.cap, h.nil⟩
theorem num_le (n : Nat) (s : List UInt8 × Bool) (hn : n ≤ 8) : num (tkL n s.1 s.2) < 18446744073709551616 := by
  have h1 := num_lt (tkL n s.1 s.2)
  have h2 : 256 ^ (tkL n s.1 s.2).length ≤ 256 ^ 8 := Nat.pow_le_pow_right (by omega) (Nat.le_trans (tkL_le _ _ _) hn)
  omega
theorem num_le4 (n : Nat) (s : List UInt8 × Bool) (hn : n ≤ 4) : num (tkL n s.1 s.2) < 4294967296 := by
  have h1 := num_lt (tkL n s.1 s.2)
  have h2 : 256 ^ (tkL n s.1 s.2).length ≤ 256 ^ 4 := Nat.pow_le_pow_right (by omega) (Nat.le_trans (tkL_le _ _ _) hn)
  omega
theorem tk_len (n : Nat) (s : List UInt8 × Bool) : (tk n s).1.length ≤ s.1.length := by
  simp only [tk, tkR]
  split <;> simp
/-- What a call on a reader leaves that gives v. -/
def Took (w : World) (g : Nat) (v : Value) (s' : List UInt8 × Bool) (e : Ending) (w' : World) : Prop := e = .returned v ∧ RdE w' g s' ∧ Keep (fun k => k = g) w w'

/-- A reader whose bytes lie in block q. -/
def RdQ (w : World) (g q : Nat) (s : List UInt8 × Bool) : Prop := ∃ A c, Rr w g A c s.1 s.2 ∧ ∀ a : Addr, A = some a → s.1 ≠ [] → a.block = q
theorem RdQ.e {w : World} {g q : Nat} {s : List UInt8 × Bool} (h : RdQ w g q s) : RdE w g s := by
  obtain ⟨A, c, h, _⟩ := h
  exact ⟨A, c, h⟩
theorem RdE.q {w : World} {g : Nat} {s : List UInt8 × Bool} (h : RdE w g s) : ∃ q, q < w.heap.size ∧ RdQ w g q s := by
  have hlt := h.lt
  obtain ⟨A, c, h⟩ := h
  by_cases h0 : s.1 = []
  · exact ⟨g, hlt, A, c, h, fun a _ h' => absurd h0 h'⟩
  · obtain ⟨a0, rfl, hb⟩ := h.rd.some_of (Nat.pos_of_ne_zero fun h => h0 (List.eq_nil_of_length_eq_zero h))
    exact ⟨a0.block, hb, some a0, c, h, fun a h _ => by injection h with h; rw [h]⟩
theorem tkR_nil (n : Nat) (bad : Bool) : tkR n [] bad = [] := by unfold tkR; split <;> simp
theorem tk_ne {n : Nat} {s : List UInt8 × Bool} (h : (tk n s).1 ≠ []) : s.1 ≠ [] := fun h0 => h (by show tkR n s.1 s.2 = []; rw [h0, tkR_nil])
def TookQ (w : World) (g q : Nat) (v : Value) (s' : List UInt8 × Bool) (e : Ending) (w' : World) : Prop := e = .returned v ∧ RdQ w' g q s' ∧ Keep (fun k => k = g) w w'
theorem TookQ.e {w w' : World} {g q : Nat} {v : Value} {s' : List UInt8 × Bool} {e : Ending} (h : TookQ w g q v s' e w') : Took w g v s' e w' := ⟨h.1, h.2.1.e, h.2.2⟩
theorem number_q (g q : Nat) (s : List UInt8 × Bool) (n : Int) (w : World) (h : RdQ w g q s) (hb : s.1.length ≤ 70368744177664) :
    Calls Tryd.prog 40 #[.pointer (some ⟨g, 0, none⟩), .int .i64 n] w (TookQ w g q (.int .u64 (num (tkL (sz n) s.1 s.2) : Nat)) (tk (sz n) s)) := by
  obtain ⟨A, c, h, hq⟩ := h
  refine (number_take g A c s.1 s.2 n w h hb).mono ?_
  rintro e w' ⟨he, ⟨A2, c2, hr, hf⟩, hk⟩
  refine ⟨he, ⟨A2, c2, hr, fun a ha hne => ?_⟩, hk⟩
  obtain ⟨a0, h0, hb⟩ := hf a ha
  rw [hb]
  exact hq a0 h0 (tk_ne hne)
theorem number_e (g : Nat) (s : List UInt8 × Bool) (n : Int) (w : World) (h : RdE w g s) (hb : s.1.length ≤ 70368744177664) :
    Calls Tryd.prog 40 #[.pointer (some ⟨g, 0, none⟩), .int .i64 n] w (Took w g (.int .u64 (num (tkL (sz n) s.1 s.2) : Nat)) (tk (sz n) s)) := by
  obtain ⟨q, _, h⟩ := h.q
  exact (number_q g q s n w h hb).mono fun e w' h => h.e
theorem sz1 : sz 1 = 1 := by decide
theorem sz4' : sz 4 = 4 := by decide
theorem sz8 : sz 8 = 8 := by decide

theorem byte_e (g : Nat) (s : List UInt8 × Bool) (w : World) (h : RdE w g s) (hb : s.1.length ≤ 70368744177664) :
    Calls Tryd.prog 39 #[.pointer (some ⟨g, 0, none⟩)] w (Took w g (.int .u8 (num (tkL 1 s.1 s.2) : Nat)) (tk 1 s)) := by
  have N0 := number_e g s 1 w h hb
  have hlt := num_lt (tkL 1 s.1 s.2)
  have hle := tkL_le 1 s.1 s.2
  rw [sz1] at N0
  have hx : num (tkL 1 s.1 s.2) < 256 := by
    have : 256 ^ (tkL 1 s.1 s.2).length ≤ 256 ^ 1 := Nat.pow_le_pow_right (by omega) hle
    omega
  clear hlt hle
  generalize num (tkL 1 s.1 s.2) = x at *
  have N := Lib.hid N0
  clear N0
  go_enter Tryd.func39, Tryd.ntmps39
  go_wp2_with fail
  refine N.out.mono ?_
  rintro e w1 ⟨rfl, hr, hk⟩
  go_wp2
  go_ret
  exact ⟨ret_int (by omega), hr, hk⟩
/-- A number of 8 bytes as an int. -/
def asInt64 (x : Nat) : Int := wrap64 (x : Int)
theorem int_e (g : Nat) (s : List UInt8 × Bool) (w : World) (h : RdE w g s) (hb : s.1.length ≤ 70368744177664) :
    Calls Tryd.prog 41 #[.pointer (some ⟨g, 0, none⟩)] w (Took w g (.int .i64 (asInt64 (num (tkL 8 s.1 s.2)))) (tk 8 s)) := by
  have N0 := number_e g s 8 w h hb
  rw [sz8] at N0
  generalize num (tkL 8 s.1 s.2) = x at *
  have N := Lib.hid N0
  clear N0
  go_enter Tryd.func41, Tryd.ntmps41
  go_wp2_with fail
  refine N.out.mono ?_
  rintro e w1 ⟨rfl, hr, hk⟩
  go_wp2
  go_ret
  exact ⟨ret_int rfl, hr, hk⟩

/-- What End tells. -/
def endOf (s : List UInt8 × Bool) : Int := if s.2 = true ∨ 0 < s.1.length then 3 else 0
theorem end_e (g : Nat) (s : List UInt8 × Bool) (w : World) (h : RdE w g s) :
    Calls Tryd.prog 38 #[.pointer (some ⟨g, 0, none⟩)] w fun e w' => e = .returned (.int .i64 (endOf s)) ∧ w = w' := by
  obtain ⟨A, c, h⟩ := h
  have h0 := h.cell0
  have h1 := h.cell1
  obtain ⟨l, bad⟩ := s
  simp only at h0 h1
  cases bad with
  | true =>
    have HE := Lib.hid (show endOf (l, true) = 3 by simp [endOf])
    go_enter Tryd.func38, Tryd.ntmps38
    go_wp2
    go_ret
    exact ⟨by rw [HE.out]; rfl, rfl⟩
  | false =>
    by_cases hl : 0 < l.length
    · have HE := Lib.hid (show endOf (l, false) = 3 by simp [endOf, hl])
      have hd : decide ((0 : Int) < (l.length : Int)) = true := by simp; omega
      go_enter Tryd.func38, Tryd.ntmps38
      go_wp2
      go_ret
      exact ⟨by rw [HE.out]; rfl, rfl⟩
    · obtain rfl : l = [] := List.eq_nil_of_length_eq_zero (by omega)
      have HE := Lib.hid (show endOf ([], false) = 0 by simp [endOf])
      go_enter Tryd.func38, Tryd.ntmps38
      go_wp2
      go_ret
      exact ⟨by rw [HE.out]; rfl, rfl⟩

theorem fail_q (g q : Nat) (s : List UInt8 × Bool) (w : World) (h : RdQ w g q s) :
    Calls Tryd.prog 51 #[.pointer (some ⟨g, 0, none⟩)] w (TookQ w g q (.tuple #[]) ([], true)) := by
  obtain ⟨A, c, h, _⟩ := h
  exact (fail_any g A c s.1 s.2 w h).mono fun e w' ⟨he, hr, hk⟩ => ⟨he, ⟨_, _, hr, fun a h _ => nomatch h⟩, hk⟩
theorem fail_e (g : Nat) (s : List UInt8 × Bool) (w : World) (h : RdE w g s) :
    Calls Tryd.prog 51 #[.pointer (some ⟨g, 0, none⟩)] w (Took w g (.tuple #[]) ([], true)) := by
  obtain ⟨A, c, h⟩ := h
  exact (fail_any g A c s.1 s.2 w h).mono fun e w' ⟨he, hr, hk⟩ => ⟨he, ⟨_, _, hr⟩, hk⟩
/-- Has a reader gone wrong behind a count of at most 'most'? -/
def cntBad (most : Int) (s : List UInt8 × Bool) : Prop := (tk 4 s).2 = true ∨ most < (num (tkL 4 s.1 s.2) : Int)
open Classical in
noncomputable def cntV (most : Int) (s : List UInt8 × Bool) : Nat := if cntBad most s then 0 else num (tkL 4 s.1 s.2)
open Classical in
noncomputable def cntS (most : Int) (s : List UInt8 × Bool) : List UInt8 × Bool := if cntBad most s then ([], true) else tk 4 s
theorem cntV_lt (most : Int) (s : List UInt8 × Bool) : cntV most s < 4294967296 := by
  unfold cntV
  split
  · omega
  · exact num_le4 4 s (by omega)
theorem cnt_len (most : Int) (s : List UInt8 × Bool) : (cntS most s).1.length ≤ s.1.length := by
  unfold cntS
  split
  · simp
  · exact tk_len 4 s
theorem Took.next {w w1 w2 : World} {g : Nat} {v : Value} {s : List UInt8 × Bool} {e : Ending} (h : Took w1 g v s e w2) (hk : Keep (fun k => k = g) w w1) : Took w g v s e w2 := ⟨h.1, h.2.1, hk.trans h.2.2 (fun _ _ h => h)⟩
set_option maxHeartbeats 400000 in
theorem count_q (g q : Nat) (s : List UInt8 × Bool) (most : Int) (w : World) (h : RdQ w g q s) (hb : s.1.length ≤ 70368744177664) :
    Calls Tryd.prog 48 #[.pointer (some ⟨g, 0, none⟩), .int .i64 most] w (TookQ w g q (.int .i64 (cntV most s : Nat)) (cntS most s)) := by
  have N0 := number_q g q s 4 w h hb
  have hx := num_le4 4 s (by omega)
  rw [sz4'] at N0
  have hv : cntBad most s → cntV most s = 0 ∧ cntS most s = ([], true) := fun h => by unfold cntV cntS; rw [if_pos h, if_pos h]; exact ⟨rfl, rfl⟩
  have hv' : ¬ cntBad most s → cntV most s = num (tkL 4 s.1 s.2) ∧ cntS most s = tk 4 s := fun h => by unfold cntV cntS; rw [if_neg h, if_neg h]; exact ⟨rfl, rfl⟩
  have hbad : cntBad most s ↔ (tk 4 s).2 = true ∨ most < (num (tkL 4 s.1 s.2) : Int) := Iff.rfl
  generalize num (tkL 4 s.1 s.2) = x at *
  generalize tk 4 s = t at *
  generalize cntV most s = V at *
  generalize cntS most s = S' at *
  have hwr : wrap64 (x : Int) = x := IntWalk.wrap64_in _ ⟨by omega, by omega⟩
  have HW := Lib.hid hwr
  clear hwr
  have N := Lib.hid N0
  clear N0
  by_cases hm : most < (x : Int)
  · obtain ⟨rfl, rfl⟩ := hv (hbad.2 (.inr hm))
    clear hv hv' hbad
    go_enter Tryd.func48, Tryd.ntmps48
    go_wp2_with fail
    refine N.out.mono ?_
    rintro e w1 ⟨rfl, hr, hk⟩
    go_wp2_with fail
    refine (fail_q g q t w1 hr).mono ?_
    rintro e w2 ⟨rfl, hr2, hk2⟩
    obtain ⟨A2, c2, hr2, hq2⟩ := hr2
    have hc := hr2.cell1
    simp only at hc
    go_wp2
    go_ret
    exact ⟨rfl, ⟨A2, c2, hr2, hq2⟩, hk.trans hk2 (fun _ _ h => h)⟩
  · obtain ⟨tl, tb⟩ := t
    cases tb with
    | true =>
      obtain ⟨rfl, rfl⟩ := hv (hbad.2 (.inl rfl))
      clear hv hv' hbad
      go_enter Tryd.func48, Tryd.ntmps48
      go_wp2_with fail
      refine N.out.mono ?_
      rintro e w1 ⟨rfl, hr, hk⟩
      obtain ⟨A2, c2, hr2, hq2⟩ := hr
      have hc := hr2.cell1
      simp only at hc
      go_wp2
      go_ret
      have hnil : tl = [] := hr2.nil rfl
      subst hnil
      exact ⟨rfl, ⟨A2, c2, hr2, hq2⟩, hk⟩
    | false =>
      obtain ⟨rfl, rfl⟩ := hv' (fun h => by rcases hbad.1 h with h | h; cases h; exact hm h)
      clear hv hv' hbad
      go_enter Tryd.func48, Tryd.ntmps48
      go_wp2_with fail
      refine N.out.mono ?_
      rintro e w1 ⟨rfl, hr, hk⟩
      obtain ⟨A2, c2, hr2, hq2⟩ := hr
      have hc := hr2.cell1
      simp only at hc
      go_wp2
      go_ret
      exact ⟨rfl, ⟨A2, c2, hr2, hq2⟩, hk⟩
theorem count_e (g : Nat) (s : List UInt8 × Bool) (most : Int) (w : World) (h : RdE w g s) (hb : s.1.length ≤ 70368744177664) :
    Calls Tryd.prog 48 #[.pointer (some ⟨g, 0, none⟩), .int .i64 most] w (Took w g (.int .i64 (cntV most s : Nat)) (cntS most s)) := by
  obtain ⟨q, _, h⟩ := h.q
  exact (count_q g q s most w h hb).mono fun e w' h => h.e

/-- What Bytes leaves. -/
def Bytes_ (w : World) (g : Nat) (l : List UInt8) (s' : List UInt8 × Bool) (e : Ending) (w' : World) : Prop :=
  ∃ A1 n1 c1, e = .returned (.slice A1 n1 c1) ∧ Hid (n1 = l.length) ∧ Rd w' w'.heap.size A1 l ∧ n1 ≤ c1 ∧ RdE w' g s' ∧ Keep (fun k => k = g) w w'
def BytesQ (w : World) (g q : Nat) (l : List UInt8) (s' : List UInt8 × Bool) (e : Ending) (w' : World) : Prop :=
  ∃ A1 n1 c1, e = .returned (.slice A1 n1 c1) ∧ Hid (n1 = l.length) ∧ Rd w' w'.heap.size A1 l ∧ n1 ≤ c1 ∧ RdQ w' g q s' ∧ Keep (fun k => k = g) w w'
theorem bytes_q (g q : Nat) (s : List UInt8 × Bool) (most : Int) (w : World) (h : RdQ w g q s) (hb : s.1.length ≤ 70368744177664) :
    Calls Tryd.prog 42 #[.pointer (some ⟨g, 0, none⟩), .int .i64 most] w (BytesQ w g q (tkL (cntV most s) (cntS most s).1 (cntS most s).2) (tk (cntV most s) (cntS most s))) := by
  have C := Lib.hid (count_q g q s most w h hb)
  have hl := cnt_len most s
  have hv := cntV_lt most s
  generalize cntV most s = V at *
  generalize cntS most s = S' at *
  go_enter Tryd.func42, Tryd.ntmps42
  go_wp2_with fail
  refine C.out.mono ?_
  rintro e w1 ⟨rfl, ⟨A, c, hr, hq⟩, hk⟩
  go_wp2_with fail
  refine (take_any g A c S'.1 S'.2 V w1 hr (by omega) (by omega)).mono ?_
  rintro e w2 ⟨A1, c1, A2, c2, rfl, hrd, hle, hr2, hk2, hf2⟩
  go_wp2
  go_ret
  exact ⟨A1, _, c1, rfl, rfl, hrd, hle, ⟨A2, c2, hr2, fun a ha hne => by obtain ⟨a0, h0, hb⟩ := hf2 a ha; rw [hb]; exact hq a0 h0 (tk_ne (s := S') hne)⟩, hk.trans hk2 (fun _ _ h => h)⟩
theorem bytes_e (g : Nat) (s : List UInt8 × Bool) (most : Int) (w : World) (h : RdE w g s) (hb : s.1.length ≤ 70368744177664) :
    Calls Tryd.prog 42 #[.pointer (some ⟨g, 0, none⟩), .int .i64 most] w (Bytes_ w g (tkL (cntV most s) (cntS most s).1 (cntS most s).2) (tk (cntV most s) (cntS most s))) := by
  obtain ⟨q, _, h⟩ := h.q
  refine (bytes_q g q s most w h hb).mono ?_
  rintro e w' ⟨A1, n1, c1, he, hn, hr, hle, hs, hk⟩
  exact ⟨A1, n1, c1, he, hn, hr, hle, hs.e, hk⟩
/-- Behind a truth. -/
def flagS (s : List UInt8 × Bool) : List UInt8 × Bool := if 1 < num (tkL 1 s.1 s.2) then ([], true) else tk 1 s
end Go.Proofs.YtklpebfkgdklmabDoor
