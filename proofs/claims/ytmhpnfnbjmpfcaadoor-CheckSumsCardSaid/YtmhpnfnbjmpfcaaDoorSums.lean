/-
  THE WALK of CheckSums.
-/
import Derived.Test.YtmhpnfnbjmpfcaaDoorUnwrap
import Derived.Test.YtmhpnfnbjmpfcaaDoorRefSum
namespace Go.Proofs.YtmhpnfnbjmpfcaaDoor
open Go.RowKit

/-- Is the sum behind right? -/
def okU (l : List UInt8) : Prop := 4 ≤ l.length ∧ num (l.drop (l.length - 4)) = crc (l.take (l.length - 4))
open Classical in
noncomputable def preU (l : List UInt8) : List UInt8 := if okU l then l.take (l.length - 4) else []
open Classical in
noncomputable def errU (l : List UInt8) : Int := if okU l then 0 else 3
/-- What both Unwraps leave. -/
def UU (w : World) (l : List UInt8) (e : Ending) (w' : World) : Prop :=
  Keep (fun _ => False) w w' ∧ ∃ X nx cx, e = .returned (.tuple #[.slice X nx cx, .int .i64 (errU l)]) ∧ Rd w' w'.heap.size X (preU l) ∧ Hid (nx = (preU l).length)
theorem preU_le (l : List UInt8) : (preU l).length ≤ l.length := by unfold preU; split <;> simp
theorem UU.yes {w w' : World} {l : List UInt8} {e : Ending} {X : Option Addr} {nx cx : Nat} (h : okU l) (hk : Keep (fun _ => False) w w') (he : e = .returned (.tuple #[.slice X nx cx, .int .i64 0])) (ho : Own 5 w' (.slice X nx cx) (l.take (l.length - 4))) : UU w l e w' := by
  have e1 : preU l = l.take (l.length - 4) := by unfold preU; rw [if_pos h]
  have e2 : errU l = 0 := by unfold errU; rw [if_pos h]
  exact ⟨hk, X, nx, cx, by rw [e2]; exact he, by rw [e1]; exact ho.rd, by rw [e1]; exact ho.len⟩
theorem UU.no {w w' : World} {l : List UInt8} {e : Ending} (h : ¬ okU l) (hk : Keep (fun _ => False) w w') (he : e = .returned (.tuple #[.slice none 0 0, .int .i64 3])) : UU w l e w' := by
  have e1 : preU l = [] := by unfold preU; rw [if_neg h]
  have e2 : errU l = 3 := by unfold errU; rw [if_neg h]
  exact ⟨hk, none, 0, 0, by rw [e2]; exact he, by rw [e1]; exact Rd.nil, by rw [e1]; rfl⟩
theorem unwrap_all {A : Option Addr} {l : List UInt8} {n c : Nat} {w : World} (hn : n = l.length) (hb : l.length ≤ 35184372088832) (ht : Tab w) (ho : Own 5 w (.slice A n c) l) :
    Calls Tryd.prog 7 #[.slice A n c] w (UU w l) := by
  rcases Nat.lt_or_ge n 4 with h | h
  · refine (unwrap_few A n c w h).mono fun e w' ⟨he, hk⟩ => UU.no (fun h' => ?_) hk he
    have := h'.1
    omega
  · have hu := unwrap_is (k := l.length - 4) (y1 := num (l.drop (l.length - 4))) (y2 := crc (l.take (l.length - 4))) (n := n) (by omega) (by omega) hb ht ho rfl rfl
    refine hu.out.mono fun e w' ⟨hk, hc⟩ => ?_
    rcases hc with ⟨hy, A', c', he, ho', _⟩ | ⟨hy, he⟩
    · exact UU.yes ⟨by omega, hy⟩ hk he ho'
    · exact UU.no (fun h' => hy h'.2) hk he
theorem refUnwrap_all (A : Option Addr) (l : List UInt8) (c : Nat) (w : World) (hc : l.length ≤ c) (hb : l.length ≤ 35184372088832) (B : Nat) (hr : Rd w B A l) (hB : B ≤ w.heap.size) :
    Calls Tryd.prog 8 #[.slice A l.length c] w (UU w l) := by
  rcases Nat.lt_or_ge l.length 4 with h | h
  · refine (refUnwrap_few A l.length c w h).mono fun e w' ⟨he, hk⟩ => UU.no (fun h' => ?_) (hk ▸ Keep.refl _ _) he
    have := h'.1
    omega
  · obtain ⟨k, hk⟩ : ∃ k, k + 4 = l.length := ⟨l.length - 4, by omega⟩
    have hk4 : l.length - 4 = k := by omega
    have hu := refUnwrap_full A l k c (okU l) w hk (by omega) hb B hr hB (by unfold okU; rw [hk4]; exact ⟨fun h => h.2, fun h' => ⟨h, h'⟩⟩)
    rw [hk] at hu
    refine hu.mono fun e w' ⟨hk', hcs⟩ => ?_
    rcases hcs with ⟨hy, A', m', c', he, _, ho'⟩ | ⟨hy, he⟩
    · exact UU.yes hy hk' he (by rw [hk4]; exact ho')
    · exact UU.no hy hk' he

set_option maxRecDepth 100000 in
set_option maxHeartbeats 1000000 in
theorem sums_small (A1 A2 : Option Addr) (l1 l2 : List UInt8) (c1 c2 : Nat) (w : World) (ht : Tab w) (r1 : Rd w w.heap.size A1 l1) (r2 : Rd w w.heap.size A2 l2) (q1 : l1.length ≤ c1) (b1 : l1.length ≤ 2000) (b2 : l2.length ≤ 2000) :
    Calls Tryd.prog 3 #[.slice A1 l1.length c1, .slice A2 l2.length c2] w fun e w' => e = .returned (.bool true) ∧ Keep (fun _ => False) w w' := by
  have d1 : decide ((2000 : Int) < (l1.length : Int)) = false := by simp; omega
  have d2 : decide ((2000 : Int) < (l2.length : Int)) = false := by simp; omega
  have CU := Lib.hid (fun A n c w' (k : Keep (fun _ => False) w w') (o : Own 5 w' (.slice A n c) l1) => unwrap_all (A := A) (c := c) o.len (by omega) (ht.kept k (fun h => h)) o)
  have RU := Lib.hid (fun w' (k : Keep (fun _ => False) w w') => refUnwrap_all A1 l1 c1 w' q1 (by omega) w.heap.size (r1.keepF k (Nat.le_refl _)) k.size)
  go_enter Tryd.func3, Tryd.ntmps3
  go_wp2_with fail
  refine (speaks_any w ht).mono ?_
  rintro e w1 ⟨rfl, k1⟩
  have s1 := k1.size
  have r11 := r1.keepF k1 (Nat.le_refl _)
  go_wp2_with (first
    | (at_builtin; refine wpList_append_u8 _ rfl (.tmp 20) (.tmp 21) _ rfl bytesT (.slice (some ⟨w1.heap.size, 0, none⟩) 0 0) [] rfl (Own.lit 5 _ [] (by decide)) _ _ _ _ l1 rfl rfl (r11.alloc s1 _) (by simp; omega) ?_; intro A4 n4 c4 w4 o4 e4 h4 m4 g4 f4; simp only [List.nil_append] at o4; have k4 := (k1.alloc (.cells #[] 5)).own g4 (NB.new s1 _ _); have v4 := (NB.new s1 0 0).next (by simp; omega) f4; have r24 := r2.keepF k4 (Nat.le_refl _); have s4 := k4.size)
    | (at_builtin; refine wpList_append_u8 _ rfl (.tmp 22) (.tmp 23) _ rfl bytesT (.slice A4 n4 c4) l1 rfl o4 _ _ _ _ l2 rfl rfl r24 (by omega) ?_; intro A5 n5 c5 w5 o5 e5 h5 m5 g5 f5; have k5 := k4.own g5 v4; have v5 := v4.next s4 f5; have r15 := r1.keepF k5 (Nat.le_refl _); have s5 := k5.size)
    | (at_builtin; refine wpList_append_u8 _ rfl (.tmp 26) (.tmp 27) _ rfl bytesT (.slice (some ⟨w5.heap.size, 0, none⟩) 0 0) [] rfl (Own.lit 5 _ [] (by decide)) _ _ _ _ l1 rfl rfl (r15.alloc s5 _) (by simp; omega) ?_; intro A6 n6 c6 w6 o6 e6 h6 m6 g6 f6; simp only [List.nil_append] at o6; have k56 := ((Keep.refl (fun _ => False) w5).alloc (.cells #[] 5)).own g6 (NB.new (Nat.le_refl _) _ _); have k6 := k5.trans k56 (fun _ _ h => h)))
  refine (CU.out A6 n6 c6 w6 k6 o6).mono ?_
  rintro e w7 ⟨k67, X, nx, cx, rfl, rx, hx⟩
  have k57 := k56.trans k67 (fun _ _ h => h)
  have k7 := k5.trans k57 (fun _ _ h => h)
  go_wp2_with fail
  refine (RU.out w7 k7).mono ?_
  rintro e w8 ⟨k78, Y, ny, cy, rfl, ry, hy⟩
  have k58 := k57.trans k78 (fun _ _ h => h)
  have k8 := k7.trans k78 (fun _ _ h => h)
  have rx8 := rx.keepF k78 (Nat.le_refl _)
  have o58 := o5.kept k58 (fun _ _ h => h)
  have hpl := preU_le l1
  have k78s := k78.size
  generalize errU l1 = ev at *
  generalize preU l1 = pl at *
  have t8 := ht.kept k8 (fun h => h)
  have r18 := r1.keepF k8 (Nat.le_refl _)
  have r28 := r2.keepF k8 (Nat.le_refl _)
  obtain ⟨x1, hx1⟩ : ∃ x, crc l1 = x := ⟨_, rfl⟩
  obtain ⟨x2, hx2⟩ : ∃ x, crc (l1 ++ l2) = x := ⟨_, rfl⟩
  have lx1 : x1 < 4294967296 := by rw [← hx1]; exact crc_lt _
  have hx12 : crcMore x1 l2 = x2 := by rw [← hx1, ← hx2, crc_append]
  have T1 := sum_is (c := c1) rfl (by omega) t8 r18 hx1
  have T2 := refSum_is (c := c1) rfl (by omega) r18 hx1
  have T4 := more_is (c := c2) lx1 rfl (by omega) t8 r28 hx12
  have T5 := refSum_is (c := c5) e5.out (by rw [e5.out]; simp; omega) o58.rd hx2
  have W1 := Lib.hid (wrap_any A1 l1 c1 w8 (by omega) t8 w.heap.size r18 k8.size)
  have W2 := Lib.hid (fun w9 (k9 : Keep (fun _ => False) w w9) => refWrap_any A1 l1 l1.length c1 w9 rfl (by omega) w.heap.size (r1.keepF k9 (Nat.le_refl _)) k9.size)
  clear hx1 hx2 hx12 o4 o5 o6 g4 g5 g6 f4 f5 f6 r24 r15 r11 CU RU d1 d2 o58 k56 k67 k57 k78 k58 v4 v5 rx
  go_wp2_with fail
  refine T1.out.mono ?_
  rintro e w' ⟨rfl, rfl⟩
  go_wp2_with fail
  refine T2.out.mono ?_
  rintro e w' ⟨rfl, rfl⟩
  go_wp2_with fail
  refine T2.out.mono ?_
  rintro e w' ⟨rfl, rfl⟩
  go_wp2_with fail
  refine T4.out.mono ?_
  rintro e w' ⟨rfl, rfl⟩
  go_wp2_with fail
  refine T5.out.mono ?_
  rintro e w' ⟨rfl, rfl⟩
  go_wp2_with fail
  refine W1.out.mono ?_
  rintro e w9 ⟨A9, c9, rfl, o9, v9, k89⟩
  have k9 := k8.trans k89 (fun _ _ h => h)
  go_wp2_with fail
  refine (W2.out w9 k9).mono ?_
  rintro e w10 ⟨n10, hn10, A10, c10, rfl, o10, v10, k910⟩
  have H10 := Lib.hid hn10
  clear hn10
  have k10 := k9.trans k910 (fun _ _ h => h)
  have k810 := k89.trans k910 (fun _ _ h => h)
  have o9' := o9.kept k910 (fun _ _ h => h)
  have S1 := same_is (c1 := c9) (c2 := c10) (w := w10) o9.len H10.out (by simp [be_length]; omega) o9'.rd o10.rd
  go_wp2_with fail
  refine S1.out.mono ?_
  rintro e w11 ⟨rfl, nq, rfl⟩
  have S2 := same_is (c1 := cx) (c2 := cy) (w := w10.drewN nq) hx.out hy.out (by omega) ((rx8.more k78s).keepF (k810.drewN nq) (Nat.le_refl _)) (ry.keepF (k810.drewN nq) (Nat.le_refl _))
  go_wp2_with fail
  refine S2.out.mono ?_
  rintro e w12 ⟨rfl, nq2, rfl⟩
  go_wp2
  go_ret
  exact ⟨rfl, k10.drewN _⟩

set_option maxHeartbeats 400000 in
theorem sums_great (A1 A2 : Option Addr) (n1 n2 c1 c2 : Nat) (w : World) (ht : Tab w) (d1 d2 : Bool) (hd : d1 = true ∨ d2 = true) (h1 : decide ((2000 : Int) < (n1 : Int)) = d1) (h2 : decide ((2000 : Int) < (n2 : Int)) = d2) :
    Calls Tryd.prog 3 #[.slice A1 n1 c1, .slice A2 n2 c2] w fun e w' => e = .returned (.bool true) ∧ Keep (fun _ => False) w w' := by
  have S := Lib.hid (speaks_any w ht)
  clear ht
  cases d1 <;> cases d2 <;> first
    | (simp at hd; done)
    | (clear hd
       go_enter Tryd.func3, Tryd.ntmps3
       go_wp2_with fail
       refine S.out.mono ?_
       rintro e w1 ⟨rfl, hk1⟩
       go_wp2
       go_ret
       exact ⟨rfl, hk1⟩)
theorem sums_any (A1 A2 : Option Addr) (l1 l2 : List UInt8) (c1 c2 : Nat) (w : World) (ht : Tab w) (r1 : Rd w w.heap.size A1 l1) (r2 : Rd w w.heap.size A2 l2) (q1 : l1.length ≤ c1) :
    Calls Tryd.prog 3 #[.slice A1 l1.length c1, .slice A2 l2.length c2] w fun e w' => e = .returned (.bool true) ∧ Keep (fun _ => False) w w' := by
  by_cases h : l1.length ≤ 2000 ∧ l2.length ≤ 2000
  · exact sums_small A1 A2 l1 l2 c1 c2 w ht r1 r2 q1 h.1 h.2
  · refine sums_great A1 A2 _ _ c1 c2 w ht _ _ ?_ rfl rfl
    simp only [decide_eq_true_eq]
    omega
end Go.Proofs.YtmhpnfnbjmpfcaaDoor
