/-
  WALKS: call.EncodeAnswer; what is put of an answer comes back.
-/
import Derived.Test.YtklpebfkgdklmaaDoorVals
import Derived.Test.YtklpebfkgdklmaaDoorPut
import Derived.Test.YtklpebfkgdklmaaDoorDecA
namespace Go.Proofs.YtklpebfkgdklmaaDoor
open Go.RowKit Go.Shelf

/-- An answer as bytes, ahead of its sum. -/
def encA (x : IAns) : List UInt8 := be (u64 x.err) 8 ++ be (u64 x.kind) 8 ++ be (u64 x.size) 8 ++ be (u64 x.links) 8 ++ tx x.data ++ lst tx x.names
theorem put1_any (g : Nat) (v : Value) (l : List UInt8) (p : Txt) (w : World) (hp : p.length ≤ 1000000) (hb : l.length ≤ 35184372088832) (hw : Wr w g v l) :
    Calls Tryd.prog 30 #[.pointer (some ⟨g, 0, none⟩), .string (ba p)] w (Put w g v (l ++ tx p)) := by
  have cv := conv_text
  have hglt := hw.lt
  have hold := hw.own.lt
  have hs : (ba p).data.toList = p := by simp
  have kb := kf_bytes w 5 (ba p)
  have C := Lib.hid fun cc => wbytes_any g v l p (some ⟨w.heap.size, 0, none⟩) p.length cc (Lib.bytesWorld w 5 (ba p)) (hw.kept kb (fun h => h) (fun _ _ h => h)) rfl (by omega) hb (w.heap.size + 1) (by have := rd_bytes w 5 (ba p); rw [hs] at this; exact this) (by rw [Lib.bytesWorld_size]; omega) (by
    rintro x hx _ (h | h)
    · injection hx with hx
      subst hx
      simp only at h
      omega
    · injection hx with hx
      subst hx
      have := hold _ h
      simp only at this
      omega)
  have hsz := ba_size p
  have FIN := Lib.hid fun e Y (h : Put (Lib.bytesWorld w 5 (ba p)) g v (l ++ be p.length 4 ++ p) e Y) => Put.join (v1 := v) (Keep.mono kb (fun _ _ h => h.elim) : Keep (WS g v) w _) (.inl rfl) h
  have e : l ++ tx p = l ++ be p.length 4 ++ p := by unfold tx; rw [List.append_assoc]
  rw [e]
  clear hw hold kb hs e
  generalize l ++ be p.length 4 ++ p = L at *
  generalize p.length = pl at *
  go_enter Tryd.func30, Tryd.ntmps30
  go_wp2_with fail
  refine (C.out _).mono ?_
  intro e Y h
  have h2 := FIN.out _ _ h
  obtain rfl := h.1
  have H2 := Lib.hid h2
  clear h h2 C FIN
  go_wp2
  go_end0
  exact H2.out
/-- A writer that has put, and puts a list more. -/
theorem Wn.list {a w : World} {g : Nat} {l : List UInt8} (h : Wn a w g l) (xs : List Txt) (A : Option Addr) (c B : Nat) (hn : xs.length ≤ 1000) (hx : ∀ p ∈ xs, p.length ≤ 1000000) (hb : l.length ≤ 1000000000) (hr : Strs w B A (xs.map ba)) (hB : B ≤ g) (hBa : B ≤ a.heap.size) :
    Calls Tryd.prog 31 #[.pointer (some ⟨g, 0, none⟩), .slice A xs.length c, .func (.func 30) #[] #[]] w fun e w' => e = .returned (.tuple #[]) ∧ Wn a w' g (l ++ lst tx xs) := by
  have hfl : ∀ ys : List Txt, (∀ p ∈ ys, p.length ≤ 1000000) → (ys.flatMap tx).length ≤ 1000004 * ys.length := by
    intro ys
    induction ys with
    | nil => intro _; simp
    | cons y ys ih =>
      intro hy
      have h1 := ih (fun p hp => hy p (List.mem_cons_of_mem _ hp))
      have h2 := hy y List.mem_cons_self
      rw [List.flatMap_cons, List.length_append, tx_length, List.length_cons]
      omega
  have hlt := h.lt
  refine h.call fun v hw hn0 => putList_any 30 (enters_of Tryd.func30 (by kernel_rfl) rfl) tx xs g v l A xs.length c B w hw rfl (by omega) (fun k => ?_) hr (by omega) (fun i hi => ?_)
    (fun v' l' x X hx' hl' hw' => put1_any g v' l' x X (hx x hx') hl' hw')
  · have h1 := hfl (xs.take k) (fun p hp => hx p (List.mem_of_mem_take hp))
    have h2 : (xs.take k).length ≤ 1000 := by rw [List.length_take]; omega
    simp only [List.length_append, be_length]
    have : 1000004 * (xs.take k).length ≤ 1000004 * 1000 := Nat.mul_le_mul_left _ h2
    omega
  · rintro (h' | h')
    · omega
    · have := hn0 _ h'
      omega
set_option maxRecDepth 100000 in
set_option maxHeartbeats 1000000 in
theorem encodeA1_any (x : IAns) (A C : Option Addr) (c c' B g0 g1 : Nat) (w2 : World) (hd : x.data.length ≤ 1000000) (hn : x.names.length ≤ 1000) (hx : ∀ p ∈ x.names, p.length ≤ 1000000)
    (hb : w2.heap[g0]? = some (.cells #[.int .i64 x.err, .int .i64 x.kind, .int .i64 x.size, .int .i64 x.links, .slice A x.data.length c, .slice C x.names.length c'] 28)) (h01 : g0 < g1) (hg1 : g1 < w2.heap.size) (hr : Rd w2 B A x.data) (hs : Strs w2 B C (x.names.map ba)) (hB : B ≤ g1) (W2 : Wn w2 w2 g1 []) :
    Calls Tryd.prog 29 #[.pointer (some ⟨g1, 0, none⟩), .pointer (some ⟨g0, 0, none⟩)] w2 fun e w' => e = .returned (.tuple #[]) ∧ Wn w2 w' g1 (encA x) := by
  have CELL := Lib.hid fun wx l (h : Wn w2 wx g1 l) => six_cells (((h.keep).block g0 (by omega) (by omega)).trans hb)
  have RD := Lib.hid fun wx l (h : Wn w2 wx g1 l) => show Rd wx B A x.data from hr.below (h.keep.below (B := B) (by omega) (fun i hi he => by omega))
  have SD := Lib.hid fun wx l (h : Wn w2 wx g1 l) => show Strs wx B C (x.names.map ba) from fun j y hj => by
    obtain ⟨b, o, e, hbb, hc⟩ := hs j y hj
    exact ⟨b, o, e, hbb, (h.keep.cell (p := ⟨b, o + j, none⟩) (by show b < _; omega) (by show ¬ b = g1; omega)).trans hc⟩
  have hB2 := Lib.hid (show B ≤ w2.heap.size by omega)
  have HE : Hid (encA x = be (u64 x.err) 8 ++ be (u64 x.kind) 8 ++ be (u64 x.size) 8 ++ be (u64 x.links) 8 ++ tx x.data ++ lst tx x.names) := Lib.hid rfl
  clear hb hr hs
  generalize encA x = EA at *
  obtain ⟨dl, hdl⟩ : ∃ dl, x.data.length = dl := ⟨_, rfl⟩
  obtain ⟨nl, hnl⟩ : ∃ nl, x.names.length = nl := ⟨_, rfl⟩
  have HDL := Lib.hid hdl
  have HNL := Lib.hid hnl
  rw [hdl, hnl] at CELL
  clear hdl hnl
  go_enter Tryd.func29, Tryd.ntmps29
  obtain ⟨c0, c1, c2, c3, c4, c5⟩ := CELL.out _ _ W2
  have C0 := Lib.hid (W2.int x.err (by simp))
  go_wp2_with fail
  refine C0.out.mono ?_
  rintro e w3 ⟨rfl, W3⟩
  clear c0 c1 c2 c3 c4 c5 C0
  obtain ⟨c0, c1, c2, c3, c4, c5⟩ := CELL.out _ _ W3
  have C1 := Lib.hid (W3.int x.kind (by simp [be_length]))
  go_wp2_with fail
  refine C1.out.mono ?_
  rintro e w4 ⟨rfl, W4⟩
  clear c0 c1 c2 c3 c4 c5 C1
  obtain ⟨c0, c1, c2, c3, c4, c5⟩ := CELL.out _ _ W4
  have C2 := Lib.hid (W4.int x.size (by simp [be_length]))
  go_wp2_with fail
  refine C2.out.mono ?_
  rintro e w5 ⟨rfl, W5⟩
  clear c0 c1 c2 c3 c4 c5 C2
  obtain ⟨c0, c1, c2, c3, c4, c5⟩ := CELL.out _ _ W5
  have C3 := Lib.hid (W5.int x.links (by simp [be_length]))
  go_wp2_with fail
  refine C3.out.mono ?_
  rintro e w6 ⟨rfl, W6⟩
  clear c0 c1 c2 c3 c4 c5 C3
  obtain ⟨c0, c1, c2, c3, c4, c5⟩ := CELL.out _ _ W6
  have C4 := Lib.hid (W6.bytes A x.data c (by omega) (by simp [be_length]) B (RD.out _ _ W6) hB hB2.out)
  rw [HDL.out] at C4
  go_wp2_with fail
  refine C4.out.mono ?_
  rintro e w7 ⟨rfl, W7⟩
  clear c0 c1 c2 c3 c4 c5 C4
  obtain ⟨c0, c1, c2, c3, c4, c5⟩ := CELL.out _ _ W7
  have C5 := Lib.hid (W7.list x.names C c' B hn hx (by simp [be_length, tx_length]; omega) (SD.out _ _ W7) hB hB2.out)
  rw [HNL.out] at C5
  go_wp2_with fail
  refine C5.out.mono ?_
  rintro e w8 ⟨rfl, W8⟩
  rw [List.nil_append, ← HE.out] at W8
  clear c0 c1 c2 c3 c4 c5 C5
  go_wp2
  go_end0
  exact ⟨rfl, W8⟩
theorem lst_length (xs : List Txt) (m : Nat) (hx : ∀ p ∈ xs, p.length ≤ m) : (lst tx xs).length ≤ 4 + (4 + m) * xs.length := by
  have h : ∀ ys : List Txt, (∀ p ∈ ys, p.length ≤ m) → (ys.flatMap tx).length ≤ (4 + m) * ys.length := by
    intro ys
    induction ys with
    | nil => intro _; simp
    | cons y ys ih =>
      intro hy
      have h1 := ih (fun p hp => hy p (List.mem_cons_of_mem _ hp))
      have h2 := hy y List.mem_cons_self
      rw [List.flatMap_cons, List.length_append, tx_length, List.length_cons, Nat.mul_succ]
      omega
  unfold lst
  rw [List.length_append, be_length]
  have := h xs hx
  omega
set_option maxRecDepth 100000 in
set_option maxHeartbeats 1000000 in
theorem encodeA_any (x : IAns) (A C : Option Addr) (c c' : Nat) (w : World) (ht : Tab w) (hd : x.data.length ≤ 1000000) (hn : x.names.length ≤ 1000) (hx : ∀ p ∈ x.names, p.length ≤ 1000000) (hr : Rd w w.heap.size A x.data) (hs : Strs w w.heap.size C (x.names.map ba)) :
    Calls Tryd.prog 10 #[.agg #[.int .i64 x.err, .int .i64 x.kind, .int .i64 x.size, .int .i64 x.links, .slice A x.data.length c, .slice C x.names.length c']] w (Fresh w ((encA x).length + 4) (wrapB (encA x))) := by
  obtain ⟨w1, hw1⟩ : ∃ w1, w.alloc (.cells #[.int .i64 x.err, .int .i64 x.kind, .int .i64 x.size, .int .i64 x.links, .slice A x.data.length c, .slice C x.names.length c'] 28) = w1 := ⟨_, rfl⟩
  obtain ⟨g0, hg0⟩ : ∃ g0, w.heap.size = g0 := ⟨_, rfl⟩
  have s1 : w1.heap.size = w.heap.size + 1 := by rw [← hw1]; simp
  have b1 : w1.heap[g0]? = some (.cells #[.int .i64 x.err, .int .i64 x.kind, .int .i64 x.size, .int .i64 x.links, .slice A x.data.length c, .slice C x.names.length c'] 28) := by rw [← hw1, ← hg0]; exact heap_alloc_new w _
  have k01 : KF w w1 := by rw [← hw1]; exact (KF.refl _).alloc _
  have hencl : (encA x).length ≤ 1002000000 := by
    have h1 := lst_length x.names 1000000 hx
    have h2 : (4 + 1000000) * x.names.length ≤ (4 + 1000000) * 1000 := Nat.mul_le_mul_left _ hn
    unfold encA
    simp only [List.length_append, tx_length, be_length]
    omega
  have CC := Lib.hid (sput_any 29 #[.pointer (some ⟨g0, 0, none⟩)] (encA x) w1 (enters_of Tryd.func29 (by kernel_rfl) rfl) (by omega) (ht.kept k01 (fun h => h))
    fun w2 g k02 hg hlt W2 => encodeA1_any x A C c c' w.heap.size g0 g w2 hd hn hx ((k02.block g0 (by omega) (fun h => h)).trans b1) (by omega) hlt ((hr.keepF k01 (Nat.le_refl _)).keepF k02 k01.size) (((hs.keep (Nat.le_refl _) k01).keep k01.size k02)) (by omega) W2)
  have HW1 := Lib.hid hw1
  have HG0 := Lib.hid hg0
  clear b1 hw1 hg0 s1 ht hr hs hencl hx hn hd
  generalize (encA x).length = ll at *
  generalize wrapB (encA x) = L at *
  generalize x.data.length = dl at *
  generalize x.names.length = nl at *
  have hmf : ∀ (fn : Fn) (first cap : Array Value) (w : World), (Instr.makeFunc fn first cap).run Tryd.prog w = .ok (.func fn first cap) w := fun fn first cap w => rfl
  go_enter Tryd.func10, Tryd.ntmps10
  go_upto_region 1 with fail
  rw [HW1.out, HG0.out]
  go_wp2_with fail
  refine CC.out.mono ?_
  rintro e w9 ⟨A9, c9, rfl, o9, n9, k9⟩
  go_wp2
  go_ret
  exact ⟨A9, c9, rfl, o9, n9.older k01.size, KF.trans k01 k9⟩
end Go.Proofs.YtklpebfkgdklmaaDoor
