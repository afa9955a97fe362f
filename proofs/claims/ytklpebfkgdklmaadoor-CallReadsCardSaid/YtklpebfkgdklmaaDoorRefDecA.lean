/-
  WALKS: the reference's DecodeAnswer.
-/
import Derived.Test.YtklpebfkgdklmaaDoorRefDec
import Derived.Deep.RegionHeld3
import Derived.Deep.RegionWith
import Derived.Deep.RegionLaw
namespace Go.Proofs.YtklpebfkgdklmaaDoor
open Go.RowKit

theorem step_append_str {P : Program} (w : World) {ops : Array Oper} {o : Oper} {a : Act} {K : Act → World → Prop} {Q : Exit → Act → World → Prop} {N : Prop} (hgd : o.guard = none) (s x : Operand) (T : TypeId)
    (ho : o.op = .call { callee := .builtin .append, args := #[s, x], argTypes := #[T, T] }) {E : TypeId} (U : St P T E) (v : Value) (xs : List ByteArray) (hs : a.eval s = v) (hown : OwnT E w v xs) (B : Nat) (A : Option Addr) (n c : Nat) (ys : List ByteArray)
    (hx : a.eval x = .slice A n c) (hn : n = ys.length) (hr : Strs w B A ys) (hb : xs.length + ys.length ≤ 1000000000)
    (h : ∀ A' n' c' w', OwnT E w' (.slice A' n' c') (xs ++ ys) → Hid (n' = (xs ++ ys).length) → n' ≤ c' → c' ≤ maxLen → w.grownBy w' v.ownBlock → ((Value.slice A' n' c').ownBlock = v.ownBlock ∨ (Value.slice A' n' c').ownBlock = some w.heap.size) → K (a.put o.dst (.slice A' n' c')) w') : if Region.wanted o (yielded ops a.tmps) = true then Oper.wp P o a w K Q else N := by
  have hw : Region.wanted o (yielded ops a.tmps) = true := by simp [Region.wanted, hgd]
  rw [if_pos hw]
  exact wp_append_str w s x T ho U v xs hs hown B A n c ys hx hn hr hb h

/-- What Bytes leaves in the loop of names. -/
def BytesN (P : World → Prop) (g1 : Nat) (y v : Value) (x : Txt) (e : Ending) (w' : World) : Prop := ∃ A1 n1 c1, e = .returned (.slice A1 n1 c1) ∧ Hid (n1 = x.length) ∧ Rd w' w'.heap.size A1 x ∧ P w' ∧ w'.cell? ⟨g1, 5, none⟩ = some v ∧ w'.cell? ⟨g1, 0, none⟩ = some y
theorem RfA.keepS {S : Nat → Prop} {w w' : World} {g : Nat} {A : Option Addr} {c : Nat} {L : List UInt8} {s : List UInt8 × Bool} (h : RfA w g A c L s) (k : Keep S w w') (hg : ¬ S g) (hA : ∀ ad : Addr, A = some ad → L ≠ [] → ¬ S ad.block) : RfA w' g A c L s := by
  obtain ⟨a, h, hs⟩ := h
  refine ⟨a, ⟨(k.block g h.lt hg).trans h.block, fun j b hj => ?_, h.cap, h.le, h.few⟩, hs⟩
  obtain ⟨ad, rfl, hb, hc⟩ := h.rd j b hj
  have hne : L ≠ [] := fun h0 => by rw [h0] at hj; simp at hj
  exact ⟨ad, rfl, Nat.lt_of_lt_of_le hb k.size, (k.cell (by rw [block_add]; exact hb) (by rw [block_add]; exact hA ad rfl hne)).trans hc⟩
/-- Names that come in: the reader in g, the answer in g1, its names v, the result in g0. -/
structure NL (w w0 : World) (g g0 g1 : Nat) (A : Option Addr) (c : Nat) (L : List UInt8) (v0 v1 v2 v3 v4 : Value) (B : Nat) (D : Option Addr) (dv : Txt) (st : List UInt8 × Bool) (pre : List Txt) (v : Value) (wr : World) : Prop where
  rd : RfA wr g A c L st
  six : SixA wr g1 v0 v1 v2 v3 v4 v
  res : SixA wr g0 (.int .i64 0) (.int .i64 0) (.int .i64 0) (.int .i64 0) (.slice none 0 0) (.slice none 0 0)
  keep : KF w wr
  own : OwnT 9 wr v (pre.map ba)
  nb : NB w0 v
  dat : Rd wr B D dv
  size : w0.heap.size ≤ wr.heap.size
/-- Where they lie. -/
structure NW (w w0 : World) (g g0 g1 : Nat) (A : Option Addr) (L : List UInt8) (B : Nat) : Prop where
  lt : w.heap.size ≤ g0 ∧ g0 < g ∧ g < g1 ∧ g1 < w0.heap.size
  B : B ≤ w0.heap.size
  A : ∀ ad : Addr, A = some ad → L ≠ [] → ad.block < w0.heap.size
section
variable {w w0 : World} {g g0 g1 : Nat} {A : Option Addr} {c : Nat} {L : List UInt8} {v0 v1 v2 v3 v4 : Value} {B : Nat} {D : Option Addr} {dv : Txt} {st st' : List UInt8 × Bool} {pre : List Txt} {v v' : Value} {X Y : World}
theorem NL.kf (h : NL w w0 g g0 g1 A c L v0 v1 v2 v3 v4 B D dv st pre v X) (hw : NW w w0 g g0 g1 A L B) (k : KF X Y) : NL w w0 g g0 g1 A c L v0 v1 v2 v3 v4 B D dv st pre v Y :=
  ⟨h.rd.kept k, h.six.kept k (fun h => h), h.res.kept k (fun h => h), KF.trans h.keep k, h.own.kept k (fun _ _ h => h), h.nb, h.dat.keepF k (Nat.le_trans hw.B h.size), Nat.le_trans h.size k.size⟩
theorem NL.read (h : NL w w0 g g0 g1 A c L v0 v1 v2 v3 v4 B D dv st pre v X) (hw : NW w w0 g g0 g1 A L B) (k : Keep (fun i => i = g) X Y) (hr : RfA Y g A c L st') : NL w w0 g g0 g1 A c L v0 v1 v2 v3 v4 B D dv st' pre v Y := by
  have hl := hw.lt
  exact ⟨hr, h.six.kept k (by omega), h.res.kept k (by omega), Keep.trans h.keep k (fun i hi (e : i = g) => by omega), h.own.kept k (fun i hi e => by have := h.nb i hi; omega), h.nb, RfE.past ⟨A, c, L, h.rd⟩ h.dat (Nat.le_trans hw.B h.size) k, Nat.le_trans h.size k.size⟩
theorem NL.put {x : Txt} (h : NL w w0 g g0 g1 A c L v0 v1 v2 v3 v4 B D dv st pre v X) (hw : NW w w0 g g0 g1 A L B) (hno : ∀ y ∈ [v0, v1, v2, v3, v4, v], ∀ z, y ≠ .int .u8 z) (hg : (X.alloc (.cells #[.string (ba x)] 9)).grownBy Y v.ownBlock) (ho' : OwnT 9 Y v' (pre.map ba ++ [ba x])) (hf : v'.ownBlock = v.ownBlock ∨ v'.ownBlock = some (X.alloc (.cells #[.string (ba x)] 9)).heap.size) :
    NL w w0 g g0 g1 A c L v0 v1 v2 v3 v4 B D dv st (pre ++ [x]) v' (Y.setCell ⟨g1, 5, none⟩ v') := by
  have hl := hw.lt
  have hB := hw.B
  have hX := h.size
  have k1 : Keep (fun i => v.ownBlock = some i) X Y := ((Keep.refl _ X).alloc _).grown hg (fun i e _ => e)
  have hn : ∀ i, v.ownBlock = some i → w0.heap.size ≤ i := h.nb
  have k2 : Keep (fun i => i = g1) Y (Y.setCell ⟨g1, 5, none⟩ v') := Keep.ofSet (S := fun i => i = g1) rfl v'
  have kws : w.heap.size ≤ X.heap.size := Keep.size h.keep
  have rd1 : RfA Y g A c L st := h.rd.keepS k1 (fun e => by have := hn _ e; omega) (fun ad e hne e2 => by have := hn _ e2; have := hw.A ad e hne; omega)
  have six1 : SixA Y g1 v0 v1 v2 v3 v4 v := h.six.kept k1 (fun e => by have := hn _ e; omega)
  have res1 := h.res.kept k1 (fun e => by have := hn _ e; omega)
  have kp1 : KF w Y := Keep.trans h.keep k1 (fun i hi e => by have := hn _ e; omega)
  have dat1 : Rd Y B D dv := h.dat.kept k1 (by omega) (fun i hi e => by have := hn _ e; omega)
  have hn' : NB w0 v' := fun i e => by
    rcases hf with e' | e'
    · exact hn i (e' ▸ e)
    · rw [e'] at e
      injection e with e
      rw [World.size_alloc] at e
      omega
  have hno' : ∀ y ∈ (#[v0, v1, v2, v3, v4, v] : Array Value).toList, ∀ z, y ≠ .int .u8 z := by simpa using hno
  have rd2 : RfE (Y.setCell ⟨g1, 5, none⟩ v') g st := RfE.set ⟨A, c, L, rd1⟩ six1.block hno' (by omega) 5 v'
  refine ⟨?_, six1.set5 v', res1.kept k2 (by omega), Keep.trans kp1 k2 (fun i hi (e : i = g1) => by omega), ?_, hn', dat1.store six1.block hno' 5 v', by rw [show (Y.setCell ⟨g1, 5, none⟩ v').heap.size = Y.heap.size by simp [World.setCell]]; exact Nat.le_trans h.size k1.size⟩
  · obtain ⟨a, hr, hs⟩ := rd1
    refine ⟨a, ⟨?_, ?_, hr.cap, hr.le, hr.few⟩, hs⟩
    · rw [heap_setCell_other Y _ g v' (by show g ≠ g1; omega)]
      exact hr.block
    · rw [show (Y.setCell ⟨g1, 5, none⟩ v').heap.size = Y.heap.size by simp [World.setCell]]
      exact hr.rd.store six1.block hno' 5 v'
  · rw [List.map_append]
    exact ho'.kept k2 (fun i hi e => by have := hn' _ hi; omega)
end
set_option maxRecDepth 100000 in
set_option maxHeartbeats 2000000 in
theorem rdecodeA_any (A : Option Addr) (l : List UInt8) (n c : Nat) (w : World) (hn : n = l.length) (hc : n ≤ c) (hb : l.length ≤ 1000000000) (hr : Rd w w.heap.size A l) :
    Calls Tryd.prog 21 #[.slice A n c] w (DecsA l w) := by
  obtain ⟨w1, hw1⟩ : ∃ w1, w.alloc (.cells zans 28) = w1 := ⟨_, rfl⟩
  obtain ⟨g0, hg0⟩ : ∃ g0, w.heap.size = g0 := ⟨_, rfl⟩
  have s1 : w1.heap.size = w.heap.size + 1 := by rw [← hw1]; simp
  have k01 : KF w w1 := by rw [← hw1]; exact (KF.refl _).alloc _
  have P0 : SixA w1 g0 (.int .i64 0) (.int .i64 0) (.int .i64 0) (.int .i64 0) (.slice none 0 0) (.slice none 0 0) := ⟨by rw [← hw1, ← hg0]; exact heap_alloc_new w _⟩
  have CU := Lib.hid (runwrap_dec A l n c w1 hn hc hb ((hr.keepF k01 (Nat.le_refl _)).more k01.size))
  have HW1 := Lib.hid hw1
  have HG0 := Lib.hid hg0
  have hg0l : g0 < w1.heap.size := by omega
  have hwg : w.heap.size ≤ g0 := by omega
  clear hw1 hg0 s1 hn
  go_enter Tryd.func21, Tryd.ntmps21
  go_upto_region 1 with fail
  rw [HW1.out, HG0.out]
  clear HW1 HG0
  go_wp2_with fail
  refine CU.out.mono ?_
  rintro e w3 ⟨k3, ⟨hbad, rfl⟩ | ⟨hgood, A3, c3, rfl, o3⟩⟩
  · have HD : Hid (decA l = none) := Lib.hid (by unfold decA; rw [if_pos hbad])
    have P03 := P0.kept k3 (fun h => h)
    obtain ⟨u0, u1, u2, u3, u4, u5⟩ := P03.cells
    have f0 := P03.free 0
    have f1 := P03.free 1
    have f2 := P03.free 2
    have f3 := P03.free 3
    have f4 := P03.free 4
    have f5 := P03.free 5
    have FIN := Lib.hid (sixA_put (v0 := .int .i64 0) (v1 := .int .i64 0) (v2 := .int .i64 0) (v3 := .int .i64 0) (v4 := .slice none 0 0) (v5 := .slice none 0 0) P03 (by simp [NoB]) (by simp [NoB]) (by simp [NoB]) (by simp [NoB]) (by simp [NoB]) (by simp [NoB]) (by simp [NoB]) (by simp [NoB]) (by simp [NoB]) (by simp [NoB]) (by simp [NoB]))
    have kw3 := KF.trans k01 k3
    clear P03 P0 CU hbad
    go_wp2_with fail
    obtain ⟨e1, e2, _, _⟩ := FIN.out
    obtain ⟨c0, c1, c2, c3, c4, c5⟩ := e1.cells
    clear FIN
    refine bodyPost_ret (v := .tuple #[.agg zans, .int .i64 3]) (by simp [results, Tryd.results21, go_sem, c0, c1, c2, c3, c4, c5]) rfl ?_
    exact ⟨Keep.trans kw3 e2 (fun i hi (h : i = g0) => by omega), .inr ⟨HD.out, rfl⟩⟩
  · have HD : Hid (decA l = if endOf (ansS 6 (l.take (l.length - 4), false)) = 0 then some (takeA (l.take (l.length - 4), false)) else none) := Lib.hid (by unfold decA; rw [if_neg hgood])
    have hk4 : (l.take (l.length - 4)).length = l.length - 4 := by rw [List.length_take]; omega
    have hkb : (l.take (l.length - 4)).length ≤ 1000000000 := by omega
    clear hgood CU hr
    generalize l.take (l.length - 4) = m at *
    generalize l.length - 4 = mk at *
    obtain ⟨w4, hw4⟩ : ∃ w4, w3.alloc (.cells #[.slice A3 mk c3, .int .i64 0, .bool false] 82) = w4 := ⟨_, rfl⟩
    obtain ⟨g, hg⟩ : ∃ g, w3.heap.size = g := ⟨_, rfl⟩
    have R4 : RfE w4 g (m, false) := by rw [← hw4, ← hg]; exact RfE.new o3 hk4.symm hkb
    have k34 : KF w3 w4 := by rw [← hw4]; exact (KF.refl _).alloc _
    have P04 := (P0.kept k3 (fun h => h)).kept k34 (fun h => h)
    have kw4 := KF.trans (KF.trans k01 k3) k34
    have hg0g : g0 < g := by have := k3.size; omega
    have C1 := Lib.hid (rnumber_any g (m, false) 8 w4 R4 (by omega))
    rw [show ((8 : Nat) : Int) = 8 from rfl] at C1
    have HW4 := Lib.hid hw4
    have HG := Lib.hid hg
    clear hw4 hg hk4 hkb P0 o3 k01 k34
    go_upto_region 5 with fail
    rw [HW4.out, HG.out]
    clear HW4 HG
    go_wp2_with fail
    refine C1.out.mono ?_
    rintro e w5 ⟨rfl, R5, k5⟩
    have P05 := P04.kept k5 (fun h : g0 = g => by omega)
    have kw5 : KF w w5 := Keep.trans kw4 k5 (fun i hi (h : i = g) => by omega)
    have HV0 : Hid ((takeA (m, false)).err = wrap64 ((num (tkL 8 m false) : Nat) : Int)) := Lib.hid rfl
    generalize num (tkL 8 m false) = xv0 at *
    obtain ⟨w6, hw6⟩ : ∃ w6, w5.alloc (.cells #[.int .i64 (wrap64 (xv0 : Int)), .int .i64 0, .int .i64 0, .int .i64 0, .slice none 0 0, .slice none 0 0] 28) = w6 := ⟨_, rfl⟩
    obtain ⟨g1, hg1⟩ : ∃ g1, w5.heap.size = g1 := ⟨_, rfl⟩
    have k56 : KF w5 w6 := by rw [← hw6]; exact (KF.refl _).alloc _
    have T6 : TkG w w6 g g0 g1 (ansS 1 (m, false)) (.int .i64 (wrap64 (xv0 : Int))) (.int .i64 0) (.int .i64 0) (.int .i64 0) (.slice none 0 0) (.slice none 0 0) :=
      ⟨R5.kept k56, ⟨by rw [← hw6, ← hg1]; exact heap_alloc_new w5 _⟩, P05.kept k56 (fun h => h), KF.trans kw5 k56, ⟨by omega, by have := R5.lt; omega, by omega⟩, by simp⟩
    have HW6 := Lib.hid hw6
    have HG1 := Lib.hid hg1
    clear hw6 hg1 P04 P05 C1 R4 R5 k5 k56 kw4 kw5
    have C2 := Lib.hid (rnumber_any g (ansS 1 (m, false)) 8 w6 T6.rd (by omega))
    rw [show ((8 : Nat) : Int) = 8 from rfl] at C2
    go_upto_region 6 with fail
    rw [HW6.out, HG1.out]
    clear HW6 HG1
    go_wp2_with fail
    refine C2.out.mono ?_
    rintro e w7 ⟨rfl, R7, k7⟩
    have T7 := T6.kept k7 (st' := ansS 2 (m, false)) R7
    have HV1 : Hid ((takeA (m, false)).kind = wrap64 ((num (tkL 8 (ansS 1 (m, false)).1 (ansS 1 (m, false)).2) : Nat) : Int)) := Lib.hid rfl
    generalize num (tkL 8 (ansS 1 (m, false)).1 (ansS 1 (m, false)).2) = xv1 at *
    have T7' := T7.set1 (.int .i64 (wrap64 (xv1 : Int))) (by simp)
    clear C2 R7 k7 T6
    obtain ⟨p0, p1, p2, p3, p4, p5⟩ := T7.six.cells
    have pf := T7.six.free 1
    have C3 := Lib.hid (rnumber_any g (ansS 2 (m, false)) 8 _ T7'.rd (by omega))
    rw [show ((8 : Nat) : Int) = 8 from rfl] at C3
    clear T7
    go_wp2_with fail
    refine C3.out.mono ?_
    rintro e w8 ⟨rfl, R8, k8⟩
    have T8 := T7'.kept k8 (st' := ansS 3 (m, false)) R8
    have HV2 : Hid ((takeA (m, false)).size = wrap64 ((num (tkL 8 (ansS 2 (m, false)).1 (ansS 2 (m, false)).2) : Nat) : Int)) := Lib.hid rfl
    generalize num (tkL 8 (ansS 2 (m, false)).1 (ansS 2 (m, false)).2) = xv2 at *
    have T8' := T8.set2 (.int .i64 (wrap64 (xv2 : Int))) (by simp)
    clear p0 p1 p2 p3 p4 p5 pf C3 R8 k8 T7'
    obtain ⟨p0, p1, p2, p3, p4, p5⟩ := T8.six.cells
    have pf := T8.six.free 2
    have C4 := Lib.hid (rnumber_any g (ansS 3 (m, false)) 8 _ T8'.rd (by omega))
    rw [show ((8 : Nat) : Int) = 8 from rfl] at C4
    clear T8
    go_wp2_with fail
    refine C4.out.mono ?_
    rintro e w9 ⟨rfl, R9, k9⟩
    have T9 := T8'.kept k9 (st' := ansS 4 (m, false)) R9
    have HV3 : Hid ((takeA (m, false)).links = wrap64 ((num (tkL 8 (ansS 3 (m, false)).1 (ansS 3 (m, false)).2) : Nat) : Int)) := Lib.hid rfl
    generalize num (tkL 8 (ansS 3 (m, false)).1 (ansS 3 (m, false)).2) = xv3 at *
    have T9' := T9.set3 (.int .i64 (wrap64 (xv3 : Int))) (by simp)
    clear p0 p1 p2 p3 p4 p5 pf C4 R9 k9 T8'
    obtain ⟨p0, p1, p2, p3, p4, p5⟩ := T9.six.cells
    have pf := T9.six.free 3
    have C5 := Lib.hid (rbytes_any g (ansS 4 (m, false)) 4096 _ T9'.rd (by omega))
    clear T9
    go_wp2_with fail
    refine C5.out.mono ?_
    rintro e w10 ⟨A10, n10, c10, rfl, hn10, r10, q10, R10, k10⟩
    obtain rfl := hn10.out
    have T10 := T9'.kept k10 (st' := ansS 5 (m, false)) R10
    have HV4 : Hid ((takeA (m, false)).data = byV 4096 (ansS 4 (m, false))) := Lib.hid rfl
    generalize byV 4096 (ansS 4 (m, false)) = fv4 at *
    have T10' := T10.set4 (.slice A10 fv4.length c10) (by simp)
    have r10' : Rd (w10.setCell ⟨g1, 4, none⟩ (.slice A10 fv4.length c10)) w10.heap.size A10 fv4 := r10.store T10.six.block (by simp) 4 _
    clear p0 p1 p2 p3 p4 p5 pf C5 R10 k10 T9' r10
    obtain ⟨p0, p1, p2, p3, p4, p5⟩ := T10.six.cells
    have pf := T10.six.free 4
    have CN := Lib.hid (rcount_any g (ansS 5 (m, false)) 64 _ T10'.rd (by omega))
    obtain ⟨w11, hw11⟩ : ∃ w11, w10.setCell ⟨g1, 4, none⟩ (.slice A10 fv4.length c10) = w11 := ⟨_, rfl⟩
    have hz11 : w11.heap.size = w10.heap.size := by rw [← hw11]; simp [World.setCell]
    rw [hw11] at CN T10' r10'
    have HW11 := Lib.hid hw11
    clear hw11
    have HE : Hid (ansS 6 (m, false) = lstS (cntV 64 (ansS 5 (m, false))) (cntS 64 (ansS 5 (m, false)))) := Lib.hid rfl
    have HX : Hid ((takeA (m, false)).names = if (lstS (cntV 64 (ansS 5 (m, false))) (cntS 64 (ansS 5 (m, false)))).2 then [] else lstN (cntV 64 (ansS 5 (m, false))) (cntS 64 (ansS 5 (m, false)))) := Lib.hid rfl
    have hVm := cntV_le 64 (ansS 5 (m, false)) (by omega)
    generalize cntV 64 (ansS 5 (m, false)) = V at *
    generalize cntS 64 (ansS 5 (m, false)) = s1 at *
    go_upto_region 10 with fail
    rw [HW11.out]
    clear p0 p1 p2 p3 p4 p5 pf HW11 T10
    go_wp2_with fail
    refine CN.out.mono ?_
    rintro e w12 ⟨rfl, R12, k12⟩
    have T12 := T10'.kept k12 (st' := lstS 0 s1) R12
    have r12 : Rd w12 w10.heap.size A10 fv4 := T10'.rd.past r10' (by omega) k12
    have hs12 := k12.size
    clear CN R12 k12 T10' r10'
    go_upto_region 11 with fail
    obtain ⟨A6, c6, L6, RA⟩ := T12.rd
    have HA6 : ∀ ad : Addr, A6 = some ad → L6 ≠ [] → ad.block < w12.heap.size := fun ad e hne => by
      obtain ⟨a, hr, _⟩ := RA
      obtain ⟨a0, e0, hb0⟩ := hr.rd.some_of (Nat.pos_of_ne_zero fun h => hne (List.eq_nil_of_length_eq_zero h))
      rw [e] at e0
      injection e0 with e0
      rw [e0]
      exact hb0
    have HW : Hid (NW w w12 g g0 g1 A6 L6 w10.heap.size) := Lib.hid ⟨⟨T12.lt.2.2, T12.lt.1, T12.lt.2.1, T12.six.lt⟩, by omega, HA6⟩
    have hlt := T12.lt
    have hNL : NL w w12 g g0 g1 A6 c6 L6 (.int .i64 (wrap64 (xv0 : Int))) (.int .i64 (wrap64 (xv1 : Int))) (.int .i64 (wrap64 (xv2 : Int))) (.int .i64 (wrap64 (xv3 : Int))) (.slice A10 fv4.length c10) w10.heap.size A10 fv4 (lstS 0 s1) (lstN 0 s1) (.slice none 0 0) w12 :=
      ⟨RA, T12.six, T12.res, T12.keep, World.ownsRow_nil _ _ _ _, NB.nil _, r12, Nat.le_refl _⟩
    have hg1w : g1 < w12.heap.size := T12.six.lt
    clear T12 RA HA6 r12
    go_wp2
    go_loopw [9] (fun i wr => ∃ (k : Nat) (v : Value), i = .int .i64 k ∧ k ≤ V ∧ NL w w12 g g0 g1 A6 c6 L6 (.int .i64 (wrap64 (xv0 : Int))) (.int .i64 (wrap64 (xv1 : Int))) (.int .i64 (wrap64 (xv2 : Int))) (.int .i64 (wrap64 (xv3 : Int))) (.slice A10 fv4.length c10) w10.heap.size A10 fv4 (lstS k s1) (lstN k s1) v wr) (fun i _ => V - (intOf i).toNat)
    case atStart => exact ⟨0, _, rfl, Nat.zero_le _, hNL⟩
    case round =>
      obtain ⟨k, v, rfl, hk, hN⟩ := hrel
      clear hNL
      obtain ⟨hc2, _⟩ := hN.rd.cells
      by_cases hkV : k < V
      · have d1 : decide ((k : Int) < (V : Int)) = true := by simp; omega
        by_cases hbad : (lstS k s1).2 = true
        · rw [hbad] at hc2
          obtain ⟨j, hj⟩ : ∃ j, V = k + j := ⟨V - k, by omega⟩
          have hst : lstS k s1 = lstS V s1 := by
            have h2 : lstS k s1 = ([], true) := by
              obtain ⟨a, _, hs⟩ := hN.rd
              rw [if_pos hbad] at hs
              exact Prod.ext hs hbad
            rw [hj, lstS_wrong h2 j, h2]
          have hnm : ¬ (lstS V s1).2 = true → lstN V s1 = lstN k s1 := fun h => absurd (hst ▸ hbad) h
          clear hbad hj
          have CE := Lib.hid (rend_any g (lstS k s1) wr ⟨_, _, _, hN.rd⟩)
          rw [hst] at CE
          go_wp2_with fail
          refine CE.out.mono ?_
          rintro e w13 ⟨rfl, nq, rfl⟩
          have hN2 := hN.kf HW.out ((KF.refl _).drewN nq)
          clear CE hN
          generalize wr.drewN nq = w13 at *
          obtain ⟨u0, u1, u2, u3, u4, u5⟩ := hN2.res.cells
          have f0 := hN2.res.free 0
          have f1 := hN2.res.free 1
          have f2 := hN2.res.free 2
          have f3 := hN2.res.free 3
          have f4 := hN2.res.free 4
          have f5 := hN2.res.free 5
          have kw := hN2.keep
          by_cases hend : endOf (lstS V s1) = 0
          · have z1 : (endOf (lstS V s1) != 0) = false := by rw [hend]; rfl
            have HD2 : Hid (decA l = some (takeA (m, false))) := Lib.hid (by rw [HD.out, HE.out, if_pos hend])
            have HNM : Hid ((takeA (m, false)).names = lstN k s1) := Lib.hid (by
              have h2 : ¬ (lstS V s1).2 = true := fun h => by unfold endOf at hend; rw [if_pos (.inl h)] at hend; cases hend
              rw [HX.out, if_neg h2, hnm h2])
            obtain ⟨B9, d9, rfl, hld, _, hS, _⟩ := hN2.own.shape
            have hnb := hN2.nb
            have HLN : Hid ((List.map ba (lstN k s1)).length = (takeA (m, false)).names.length) := Lib.hid (by rw [HNM.out, List.length_map])
            have HLB : Hid (∀ ad : Addr, B9 = some ad → w12.heap.size ≤ ad.block) := Lib.hid fun ad h => hnb _ (by rw [h]; simp [Value.ownBlock])
            obtain ⟨q0, q1, q2, q3, q4, q5⟩ := hN2.six.cells
            have hdat := hN2.dat
            have hP0 := hN2.res
            have hz13 := hN2.size
            rw [HLN.out] at q5
            generalize hnl : (takeA (m, false)).names.length = nl at *
            have HNL := Lib.hid hnl
            have FIN := Lib.hid (sixA_put (v0 := .int .i64 (wrap64 (xv0 : Int))) (v1 := .int .i64 (wrap64 (xv1 : Int))) (v2 := .int .i64 (wrap64 (xv2 : Int))) (v3 := .int .i64 (wrap64 (xv3 : Int))) (v4 := .slice A10 fv4.length c10) (v5 := .slice B9 nl d9) hP0 (by simp [NoB]) (by simp [NoB]) (by simp [NoB]) (by simp [NoB]) (by simp [NoB]) (by simp [NoB]) (by simp [NoB]) (by simp [NoB]) (by simp [NoB]) (by simp [NoB]) (by simp [NoB]))
            have HEQ : Hid (ansV (takeA (m, false)) A10 c10 B9 d9 = #[.int .i64 (wrap64 (xv0 : Int)), .int .i64 (wrap64 (xv1 : Int)), .int .i64 (wrap64 (xv2 : Int)), .int .i64 (wrap64 (xv3 : Int)), .slice A10 fv4.length c10, .slice B9 nl d9]) := Lib.hid (by unfold ansV; rw [HV0.out, HV1.out, HV2.out, HV3.out, HV4.out, HNL.out])
            clear hN2 HD hend hnl hst hnm hP0 hnb
            go_wp2_with fail
            obtain ⟨e1, e2, e3, e4⟩ := FIN.out
            obtain ⟨c0, c1, c2, c3', c4, c5'⟩ := e1.cells
            have hr6 := e3 _ _ _ hdat
            have hs7 : w10.heap.size ≤ _ := Nat.le_trans (Nat.le_trans (by omega) hz13) (Nat.le_of_eq e4.symm)
            have hsn := hS.past e2 (fun ad ha => by have := HLB.out ad ha; omega)
            clear FIN e1 e3
            refine bodyPost_ret (v := .tuple #[.agg #[.int .i64 (wrap64 (xv0 : Int)), .int .i64 (wrap64 (xv1 : Int)), .int .i64 (wrap64 (xv2 : Int)), .int .i64 (wrap64 (xv3 : Int)), .slice A10 fv4.length c10, .slice B9 nl d9], .int .i64 0]) (by simp [results, Tryd.results21, go_sem, c0, c1, c2, c3', c4, c5']) rfl ?_
            exact ⟨Keep.trans kw e2 (fun i hi (h : i = g0) => by omega), .inl ⟨takeA (m, false), A10, c10, B9, d9, HD2.out, by rw [HEQ.out], by rw [HV4.out]; exact hr6.more hs7, by rw [HNM.out]; exact hsn, fun ad ha => by have := HLB.out ad ha; omega⟩⟩
          · have z1 : (endOf (lstS V s1) != 0) = true := bne_iff_ne.2 hend
            have HD2 : Hid (decA l = none) := Lib.hid (by rw [HD.out, HE.out, if_neg hend])
            have hP0 := hN2.res
            have FIN := Lib.hid (sixA_put (v0 := .int .i64 0) (v1 := .int .i64 0) (v2 := .int .i64 0) (v3 := .int .i64 0) (v4 := .slice none 0 0) (v5 := .slice none 0 0) hP0 (by simp [NoB]) (by simp [NoB]) (by simp [NoB]) (by simp [NoB]) (by simp [NoB]) (by simp [NoB]) (by simp [NoB]) (by simp [NoB]) (by simp [NoB]) (by simp [NoB]) (by simp [NoB]))
            clear hN2 HD hend hst hnm hP0
            go_wp2_with fail
            obtain ⟨e1, e2, _, _⟩ := FIN.out
            obtain ⟨c0, c1, c2, c3', c4, c5'⟩ := e1.cells
            clear FIN
            refine bodyPost_ret (v := .tuple #[.agg zans, .int .i64 3]) (by simp [results, Tryd.results21, go_sem, c0, c1, c2, c3', c4, c5']) rfl ?_
            exact ⟨Keep.trans kw e2 (fun i hi (h : i = g0) => by omega), .inr ⟨HD2.out, rfl⟩⟩
        · have hfalse : (lstS k s1).2 = false := by simpa using hbad
          rw [hfalse] at hc2
          have HSP : Hid (∃ Av cv, v = .slice Av (lstN k s1).length cv) := Lib.hid (by
            obtain ⟨Av, cv, e, _⟩ := hN.own.shape
            exact ⟨Av, cv, by rw [e, List.length_map]⟩)
          have HB : Hid (∀ X, KF wr X → Calls Tryd.prog 49 #[.pointer (some ⟨g, 0, none⟩), .int .i64 300] X (BytesN (NL w w12 g g0 g1 A6 c6 L6 (.int .i64 (wrap64 (xv0 : Int))) (.int .i64 (wrap64 (xv1 : Int))) (.int .i64 (wrap64 (xv2 : Int))) (.int .i64 (wrap64 (xv3 : Int))) (.slice A10 fv4.length c10) w10.heap.size A10 fv4 (lstS (k + 1) s1) (lstN k s1) v) g1 (.int .i64 (wrap64 (xv0 : Int))) v (lstV k s1))) := Lib.hid fun X kX => by
            refine (rbytes_A g A6 c6 L6 (lstS k s1) 300 X (hN.kf HW.out kX).rd (by omega)).mono ?_
            rintro e w' ⟨A1, n1, c1, h1, h2, h3, _, h5, h6⟩
            have N := (hN.kf HW.out kX).read HW.out h6 h5
            exact ⟨A1, n1, c1, h1, h2, h3, N, N.six.cells.2.2.2.2.2, N.six.cells.1⟩
          have HG : Hid (∀ st W5 W4, NL w w12 g g0 g1 A6 c6 L6 (.int .i64 (wrap64 (xv0 : Int))) (.int .i64 (wrap64 (xv1 : Int))) (.int .i64 (wrap64 (xv2 : Int))) (.int .i64 (wrap64 (xv3 : Int))) (.slice A10 fv4.length c10) w10.heap.size A10 fv4 st (lstN k s1) v W5 → (W5.alloc (.cells #[.string (ba (lstV k s1))] 9)).grownBy W4 v.ownBlock → W4.cell? ⟨g1, 0, none⟩ = some (.int .i64 (wrap64 (xv0 : Int))) ∧ W4.frozen? ⟨g1, 5, none⟩ = false ∧ W4.cell? ⟨g1, 5, none⟩ = some v) := Lib.hid fun st W5 W4 N hg => by
            have k1 : Keep (fun i => v.ownBlock = some i) W5 W4 := ((Keep.refl _ W5).alloc _).grown hg (fun i e _ => e)
            have S4 := N.six.kept k1 (fun e => by have := N.nb _ e; omega)
            exact ⟨S4.cells.1, S4.free 5, S4.cells.2.2.2.2.2⟩
          have HNX : Hid (lstN (k + 1) s1 = lstN k s1 ++ [lstV k s1]) := Lib.hid (lstN_succ k s1)
          have HP : Hid (∀ W5 W4 A9 n9 c9, NL w w12 g g0 g1 A6 c6 L6 (.int .i64 (wrap64 (xv0 : Int))) (.int .i64 (wrap64 (xv1 : Int))) (.int .i64 (wrap64 (xv2 : Int))) (.int .i64 (wrap64 (xv3 : Int))) (.slice A10 fv4.length c10) w10.heap.size A10 fv4 (lstS (k + 1) s1) (lstN k s1) v W5 → (W5.alloc (.cells #[.string (ba (lstV k s1))] 9)).grownBy W4 v.ownBlock → OwnT 9 W4 (.slice A9 n9 c9) ((lstN k s1).map ba ++ [ba (lstV k s1)]) → ((Value.slice A9 n9 c9).ownBlock = v.ownBlock ∨ (Value.slice A9 n9 c9).ownBlock = some (W5.alloc (.cells #[.string (ba (lstV k s1))] 9)).heap.size) → NL w w12 g g0 g1 A6 c6 L6 (.int .i64 (wrap64 (xv0 : Int))) (.int .i64 (wrap64 (xv1 : Int))) (.int .i64 (wrap64 (xv2 : Int))) (.int .i64 (wrap64 (xv3 : Int))) (.slice A10 fv4.length c10) w10.heap.size A10 fv4 (lstS (k + 1) s1) (lstN (k + 1) s1) (.slice A9 n9 c9) (W4.setCell ⟨g1, 5, none⟩ (.slice A9 n9 c9))) := Lib.hid fun W5 W4 A9 n9 c9 N hg ho hf => by
            rw [HNX.out]
            refine N.put HW.out ?_ hg ho hf
            obtain ⟨Av, cv, ev⟩ := HSP.out
            subst ev
            simp
          have hlen : (lstN k s1).length ≤ 64 := by rw [lstN_length]; omega
          have hp5 := hN.six.cells.2.2.2.2.2
          have hp0 := hN.six.cells.1
          clear hN hfalse hbad
          clear HNX
          generalize lstN k s1 = pre at *
          generalize lstV k s1 = x at *
          obtain ⟨Av, cv, rfl⟩ := HSP.out
          go_upto_region 14 with fail
          go_region_law (first
            | (refine step_append_str _ rfl _ _ _ rfl strsT (.slice Av pre.length cv) (pre.map ba) rfl (N5.own.alloc _) _ _ 1 1 [ba x] rfl rfl (strs_one _ _ _) (by simp; omega) ?_; intro A9 n9 c9 w9 o9 e9 h9 m9 g9 f9; obtain ⟨s9, t9, s95⟩ := HG.out _ _ _ N5 g9)
            | (go_simp; go_wp2_with (first | (go_at_call 49; refine (HB.out _ ?_).mono ?_; (first | exact KF.refl _ | exact (KF.refl _).drew | assumption); rintro e w5 ⟨A5, n5, c5, rfl, hn5, r5, N5, s5, s50⟩; obtain rfl := hn5.out; have m5 : (w5.alloc (.cells #[.string (ba x)] 9)).cell? ⟨g1, 5, none⟩ = some (.slice Av pre.length cv) := (World.cell?_alloc_lt w5 _ ⟨g1, 5, none⟩ N5.six.lt).trans s5; have cv5 := string_any c5 r5; have cv5e : (convert 22 9 (.slice A5 x.length c5)).run Tryd.prog w5.drew = .ok (.string (ba x)) w5.drew := string_any c5 (r5.drew); have N5e := N5.kf HW.out (KF.refl _).drew; have N5f := N5e.kf HW.out (KF.refl _).drew))))
          all_goals
            go_wp2_with fail
            go_roundw
            case rel => exact ⟨k + 1, _, by go_num, by omega, HP.out w5 w9 A9 n9 c9 N5 g9 o9 f9⟩
            case measure => simp [intOf]; omega
      · have d1 : decide ((k : Int) < (V : Int)) = false := by simp; omega
        have hst : lstS k s1 = lstS V s1 := by rw [show k = V by omega]
        have hnm : ¬ (lstS V s1).2 = true → lstN V s1 = lstN k s1 := fun _ => by rw [show k = V by omega]
        have CE := Lib.hid (rend_any g (lstS k s1) wr ⟨_, _, _, hN.rd⟩)
        rw [hst] at CE
        go_wp2_with fail
        refine CE.out.mono ?_
        rintro e w13 ⟨rfl, nq, rfl⟩
        have hN2 := hN.kf HW.out ((KF.refl _).drewN nq)
        clear CE hN
        generalize wr.drewN nq = w13 at *
        obtain ⟨u0, u1, u2, u3, u4, u5⟩ := hN2.res.cells
        have f0 := hN2.res.free 0
        have f1 := hN2.res.free 1
        have f2 := hN2.res.free 2
        have f3 := hN2.res.free 3
        have f4 := hN2.res.free 4
        have f5 := hN2.res.free 5
        have kw := hN2.keep
        by_cases hend : endOf (lstS V s1) = 0
        · have z1 : (endOf (lstS V s1) != 0) = false := by rw [hend]; rfl
          have HD2 : Hid (decA l = some (takeA (m, false))) := Lib.hid (by rw [HD.out, HE.out, if_pos hend])
          have HNM : Hid ((takeA (m, false)).names = lstN k s1) := Lib.hid (by
            have h2 : ¬ (lstS V s1).2 = true := fun h => by unfold endOf at hend; rw [if_pos (.inl h)] at hend; cases hend
            rw [HX.out, if_neg h2, hnm h2])
          obtain ⟨B9, d9, rfl, hld, _, hS, _⟩ := hN2.own.shape
          have hnb := hN2.nb
          have HLN : Hid ((List.map ba (lstN k s1)).length = (takeA (m, false)).names.length) := Lib.hid (by rw [HNM.out, List.length_map])
          have HLB : Hid (∀ ad : Addr, B9 = some ad → w12.heap.size ≤ ad.block) := Lib.hid fun ad h => hnb _ (by rw [h]; simp [Value.ownBlock])
          obtain ⟨q0, q1, q2, q3, q4, q5⟩ := hN2.six.cells
          have hdat := hN2.dat
          have hP0 := hN2.res
          have hz13 := hN2.size
          rw [HLN.out] at q5
          generalize hnl : (takeA (m, false)).names.length = nl at *
          have HNL := Lib.hid hnl
          have FIN := Lib.hid (sixA_put (v0 := .int .i64 (wrap64 (xv0 : Int))) (v1 := .int .i64 (wrap64 (xv1 : Int))) (v2 := .int .i64 (wrap64 (xv2 : Int))) (v3 := .int .i64 (wrap64 (xv3 : Int))) (v4 := .slice A10 fv4.length c10) (v5 := .slice B9 nl d9) hP0 (by simp [NoB]) (by simp [NoB]) (by simp [NoB]) (by simp [NoB]) (by simp [NoB]) (by simp [NoB]) (by simp [NoB]) (by simp [NoB]) (by simp [NoB]) (by simp [NoB]) (by simp [NoB]))
          have HEQ : Hid (ansV (takeA (m, false)) A10 c10 B9 d9 = #[.int .i64 (wrap64 (xv0 : Int)), .int .i64 (wrap64 (xv1 : Int)), .int .i64 (wrap64 (xv2 : Int)), .int .i64 (wrap64 (xv3 : Int)), .slice A10 fv4.length c10, .slice B9 nl d9]) := Lib.hid (by unfold ansV; rw [HV0.out, HV1.out, HV2.out, HV3.out, HV4.out, HNL.out])
          clear hN2 HD hend hnl hst hnm hP0 hnb
          go_wp2_with fail
          obtain ⟨e1, e2, e3, e4⟩ := FIN.out
          obtain ⟨c0, c1, c2, c3', c4, c5'⟩ := e1.cells
          have hr6 := e3 _ _ _ hdat
          have hs7 : w10.heap.size ≤ _ := Nat.le_trans (Nat.le_trans (by omega) hz13) (Nat.le_of_eq e4.symm)
          have hsn := hS.past e2 (fun ad ha => by have := HLB.out ad ha; omega)
          clear FIN e1 e3
          refine bodyPost_ret (v := .tuple #[.agg #[.int .i64 (wrap64 (xv0 : Int)), .int .i64 (wrap64 (xv1 : Int)), .int .i64 (wrap64 (xv2 : Int)), .int .i64 (wrap64 (xv3 : Int)), .slice A10 fv4.length c10, .slice B9 nl d9], .int .i64 0]) (by simp [results, Tryd.results21, go_sem, c0, c1, c2, c3', c4, c5']) rfl ?_
          exact ⟨Keep.trans kw e2 (fun i hi (h : i = g0) => by omega), .inl ⟨takeA (m, false), A10, c10, B9, d9, HD2.out, by rw [HEQ.out], by rw [HV4.out]; exact hr6.more hs7, by rw [HNM.out]; exact hsn, fun ad ha => by have := HLB.out ad ha; omega⟩⟩
        · have z1 : (endOf (lstS V s1) != 0) = true := bne_iff_ne.2 hend
          have HD2 : Hid (decA l = none) := Lib.hid (by rw [HD.out, HE.out, if_neg hend])
          have hP0 := hN2.res
          have FIN := Lib.hid (sixA_put (v0 := .int .i64 0) (v1 := .int .i64 0) (v2 := .int .i64 0) (v3 := .int .i64 0) (v4 := .slice none 0 0) (v5 := .slice none 0 0) hP0 (by simp [NoB]) (by simp [NoB]) (by simp [NoB]) (by simp [NoB]) (by simp [NoB]) (by simp [NoB]) (by simp [NoB]) (by simp [NoB]) (by simp [NoB]) (by simp [NoB]) (by simp [NoB]))
          clear hN2 HD hend hst hnm hP0
          go_wp2_with fail
          obtain ⟨e1, e2, _, _⟩ := FIN.out
          obtain ⟨c0, c1, c2, c3', c4, c5'⟩ := e1.cells
          clear FIN
          refine bodyPost_ret (v := .tuple #[.agg zans, .int .i64 3]) (by simp [results, Tryd.results21, go_sem, c0, c1, c2, c3', c4, c5']) rfl ?_
          exact ⟨Keep.trans kw e2 (fun i hi (h : i = g0) => by omega), .inr ⟨HD2.out, rfl⟩⟩
end Go.Proofs.YtklpebfkgdklmaaDoor
