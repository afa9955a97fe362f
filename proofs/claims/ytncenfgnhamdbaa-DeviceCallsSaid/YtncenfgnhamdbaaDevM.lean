/-
  A device of the law's own: what its calls do, in few words; the law's speaks.
-/
import Derived.Test.YtncenfgnhamdbaaDevCrash
import Derived.Test.YtncenfgnhamdbaaDevPages
import Derived.Test.YtncenfgnhamdbaaDevSame
namespace Go.Proofs.Ytncenfgnhamdbaa
open Go.RowKit

/-- A device in block g that was made behind the world a. -/
structure Mn (a w : World) (g : Nat) (d : Dv) (v : Value) (qs : List PV) : Prop where
  dev : DevAt w g v qs d
  keep : KF a w
  low : ∀ i, DFoot g v qs i → a.heap.size ≤ i
def M (a w : World) (g : Nat) (d : Dv) : Prop := ∃ v qs, Mn a w g d v qs
section
variable {a w w' : World} {g : Nat} {d d' : Dv} {v v' : Value} {qs qs' : List PV}
theorem Mn.left (h : Mn a w g d v qs) (l : DLeft w g v qs d' v' qs' w') : M a w' g d' :=
  ⟨v', qs', l.dev, Keep.trans h.keep l.keep (fun i hi e => by
    have := h.low i (e.imp id .inl)
    omega), fun i hi => (l.foot i hi).elim (h.low i) (fun h1 => Nat.le_trans h.keep.size h1)⟩
theorem M.far (h : M a w g d) (k : KF w w') : M a w' g d := by
  obtain ⟨v, qs, h⟩ := h
  exact ⟨v, qs, h.dev.far k, KF.trans h.keep k, h.low⟩
theorem M.keep (h : M a w g d) : KF a w := by
  obtain ⟨v, qs, h⟩ := h
  exact h.keep
theorem M.good (h : M a w g d) : DGood d := by
  obtain ⟨v, qs, h⟩ := h
  exact h.dev.good
theorem M.new (n : Nat) (w : World) (h1 : 1 ≤ n) (h2 : n ≤ 65536) : Calls Try.prog 6 #[.int .i64 (n : Int)] w fun e w' => e = .returned (.tuple #[.pointer (some ⟨w.heap.size, 0, none⟩), .int .i64 0]) ∧ M w w' w.heap.size ⟨n, [], 0⟩ :=
  (dnew_yes n w h1 h2).mono fun e w' ⟨he, hd, k⟩ => ⟨he, _, _, hd, k, by
    rintro i (rfl | hi | ⟨q, hq, _⟩)
    · exact Nat.le_refl _
    · simp [Value.ownBlock] at hi
    · simp at hq⟩
theorem M.free (h : M a w g d) : Calls Try.prog 7 #[.pointer (some ⟨g, 0, none⟩)] w fun e w' => e = .returned (.int .i64 ((d.room - d.pages.length : Nat) : Int)) ∧ ∃ n, w.drewN n = w' := by
  obtain ⟨v, qs, h⟩ := h
  exact dfree_any w h.dev
theorem M.append (h : M a w g d) (A : Option Addr) (b : List UInt8) (n c : Nat) (hn : n = b.length) (hb : b.length ≤ 1000) (hr : Rd w w.heap.size A b) :
    Calls Try.prog 9 #[.pointer (some ⟨g, 0, none⟩), .slice A n c] w fun e w' => e = .returned (.int .i64 (if d.room ≤ d.pages.length then 4 else 0)) ∧ M a w' g (d.push b) := by
  obtain ⟨v, qs, h⟩ := h
  refine (dappend_any A b n c w h.dev hn hb hr).mono ?_
  rintro e w' ⟨rfl, v', qs', l⟩
  exact ⟨rfl, h.left l⟩
theorem M.sync (h : M a w g d) : Calls Try.prog 11 #[.pointer (some ⟨g, 0, none⟩)] w fun e w' => e = .returned (.tuple #[]) ∧ M a w' g d.sync := by
  obtain ⟨v, qs, h⟩ := h
  refine (dsync_any w h.dev).mono ?_
  rintro e w' ⟨rfl, v', qs', l⟩
  exact ⟨rfl, h.left l⟩
theorem M.wipe (h : M a w g d) : Calls Try.prog 15 #[.pointer (some ⟨g, 0, none⟩)] w fun e w' => e = .returned (.tuple #[]) ∧ M a w' g d.wipe := by
  obtain ⟨v, qs, h⟩ := h
  refine (dwipe_any w h.dev).mono ?_
  rintro e w' ⟨rfl, v', qs', l⟩
  exact ⟨rfl, h.left l⟩
/-- Crash by picks that came in. -/
theorem M.crash (h : M a w g d) (A : Option Addr) (picks : List UInt8) (n c : Nat) (hn : n = picks.length) (hb : n ≤ 1000000) (hr : Rd w w.heap.size A picks) (hA : ∀ ad : Addr, A = some ad → picks ≠ [] → ad.block < a.heap.size) :
    Calls Try.prog 13 #[.pointer (some ⟨g, 0, none⟩), .slice A n c] w fun e w' => e = .returned (.tuple #[]) ∧ M a w' g (d.crash picks) := by
  obtain ⟨v, qs, h⟩ := h
  refine (dcrash_any A picks n c w h.dev hn hb hr (fun ad e hp hs => ?_)).mono ?_
  · have := h.low _ (hs.imp id .inl)
    have := hA ad e hp
    omega
  · rintro e w' ⟨rfl, v', qs', l⟩
    exact ⟨rfl, h.left l⟩
/-- Crash by one pick that is written out. -/
theorem M.crash_lit (h : M a w g d) (z : UInt8) :
    Calls Try.prog 13 #[.pointer (some ⟨g, 0, none⟩), .slice (some ⟨w.heap.size, 0, none⟩) 1 1] (w.alloc (.cells #[.int .u8 z.toNat] 5)) fun e w' => e = .returned (.tuple #[]) ∧ M a w' g (d.crash [z]) := by
  obtain ⟨v, qs, h⟩ := h
  have k : KF w (w.alloc (.cells #[.int .u8 z.toNat] 5)) := (KF.refl w).alloc _
  have hr : Rd (w.alloc (.cells #[.int .u8 z.toNat] 5)) (w.alloc (.cells #[.int .u8 z.toNat] 5)).heap.size (some ⟨w.heap.size, 0, none⟩) [z] := by
    have := Rd.lit w 5 (0, 0) [z] #[.int .u8 z.toNat] rfl
    rwa [World.size_alloc]
  refine (dcrash_any (some ⟨w.heap.size, 0, none⟩) [z] 1 1 _ (h.dev.far k) rfl (by decide) hr (fun ad e _ hs => ?_)).mono ?_
  · injection e with e
    subst e
    have := h.dev.foot_lt (hs.imp id .inl)
    exact Nat.lt_irrefl _ this
  · rintro e w' ⟨rfl, v', qs', l⟩
    exact ⟨rfl, h.left (l.behind k)⟩
/-- Append of one byte that is written out. -/
theorem M.append_lit (h : M a w g d) (z : UInt8) :
    Calls Try.prog 9 #[.pointer (some ⟨g, 0, none⟩), .slice (some ⟨w.heap.size, 0, none⟩) 1 1] (w.alloc (.cells #[.int .u8 z.toNat] 5 (1, 2))) fun e w' => e = .returned (.int .i64 (if d.room ≤ d.pages.length then 4 else 0)) ∧ M a w' g (d.push [z]) :=
  (h.far ((KF.refl w).alloc _)).append (some ⟨w.heap.size, 0, none⟩) [z] 1 1 rfl (by show (1 : Nat) ≤ 1000; decide) (by
    have := Rd.lit w 5 (1, 2) [z] #[.int .u8 z.toNat] rfl
    rwa [World.size_alloc])
theorem M.pages (h : M a w g d) : Calls Try.prog 19 #[.pointer (some ⟨g, 0, none⟩)] w fun e w' => ∃ A n c, e = .returned (.slice A n c) ∧ (n = (wholes d.pages).length ∧ n ≤ c ∧ c ≤ maxLen ∧ RdS w' w.heap.size w'.heap.size A (wholes d.pages)) ∧ KF w w' := by
  obtain ⟨v, qs, h⟩ := h
  exact dpages_any w h.dev
end
theorem string8 {w : World} {B : Nat} {A : Option Addr} {z : UInt8} (c : Nat) (h : Rd w B A [z]) : (convert 31 9 (.slice A 1 c)).run Try.prog w = .ok (.string ⟨#[z]⟩) w := by
  obtain ⟨a, rfl, _⟩ := h.some_of (by show 0 < 1; decide)
  exact run_convert_bytes_back w 31 9 5 a c [z] Try.underlying31 Try.underlying5 Try.underlying9 fun _ hj => h.at_ hj
set_option maxRecDepth 100000 in
set_option maxHeartbeats 1000000 in
theorem speaks8 (w : World) : Calls Try.prog 5 #[] w fun e w' => e = .returned (.bool true) ∧ KF w w' := by
  have C1 := Lib.hid (M.new 5 w (by decide) (by decide))
  have C2 : Hid (∀ w1, M w w1 w.heap.size ⟨5, [], 0⟩ → Calls Try.prog 9 #[.pointer (some ⟨w.heap.size, 0, none⟩), .slice (some ⟨w1.heap.size, 0, none⟩) 1 1] (w1.alloc (.cells #[.int .u8 97] 5 (1, 2))) fun e w' => e = .returned (.int .i64 0) ∧ M w w' w.heap.size ⟨5, [⟨1, [97]⟩], 0⟩) := Lib.hid fun w1 h => h.append_lit 97
  have C3 : Hid (∀ w1, M w w1 w.heap.size ⟨5, [⟨1, [97]⟩], 0⟩ → Calls Try.prog 13 #[.pointer (some ⟨w.heap.size, 0, none⟩), .slice (some ⟨w1.heap.size, 0, none⟩) 1 1] (w1.alloc (.cells #[.int .u8 2] 5)) fun e w' => e = .returned (.tuple #[]) ∧ M w w' w.heap.size ⟨5, [⟨2, []⟩], 1⟩) := Lib.hid fun w1 h => h.crash_lit 2
  have C4 : Hid (∀ w1, M w w1 w.heap.size ⟨5, [⟨2, []⟩], 1⟩ → Calls Try.prog 9 #[.pointer (some ⟨w.heap.size, 0, none⟩), .slice (some ⟨w1.heap.size, 0, none⟩) 1 1] (w1.alloc (.cells #[.int .u8 98] 5 (1, 2))) fun e w' => e = .returned (.int .i64 0) ∧ M w w' w.heap.size ⟨5, [⟨2, []⟩, ⟨1, [98]⟩], 1⟩) := Lib.hid fun w1 h => h.append_lit 98
  have hcv := fun (w : World) (C : Array Value) (n c : Nat) => Lib.run_convert_bytes_const (P := Try.prog) w 31 5 C n c Try.underlying31 Try.underlying5
  go_enter Try.func5, Try.ntmps5
  go_upto_region 4 with (first
    | (go_at_call 6; refine C1.out.mono ?_; rintro e w1 ⟨rfl, D1⟩; clear C1)
    | (go_at_call 9; refine (C2.out _ D1).mono ?_; rintro e w2 ⟨rfl, D2⟩; clear C2 D1))
  go_upto_region 5 with (go_at_call 13; refine (C3.out _ D2).mono ?_; rintro e w3 ⟨rfl, D3⟩; clear C3 D2)
  go_upto_region 6 with (go_at_call 9; refine (C4.out _ D3).mono ?_; rintro e w4 ⟨rfl, D4⟩; clear C4 D3)
  have CP := Lib.hid D4.pages
  have HK := Lib.hid D4.keep
  have CF := Lib.hid fun W (k : KF w4 W) => (D4.far k).free
  clear D4 hcv
  go_upto_region 7 with (go_at_call 19; refine CP.out.mono ?_; rintro e w5 ⟨A5, n5, c5, rfl, ⟨h5, h51, h52, R5⟩, k5⟩)
  have hw : wholes [⟨2, []⟩, ⟨1, [98]⟩] = [[98]] := rfl
  rw [hw] at h5 R5
  obtain rfl : n5 = 1 := h5
  obtain ⟨b, o, A6, c6, rfl, _, _, hc, _, _, hr, _⟩ := R5 0 [98] rfl
  have hc0 : w5.cell? ⟨b, o, none⟩ = some (.slice A6 1 c6) := hc
  have hs := string8 c6 hr
  have CF5 : Hid (Calls Try.prog 7 #[.pointer (some ⟨w.heap.size, 0, none⟩)] w5 fun e w' => e = .returned (.int .i64 3) ∧ ∃ n, w5.drewN n = w') := Lib.hid (CF.out w5 k5)
  have K5 := Lib.hid (KF.trans HK.out k5)
  clear R5 hc hr CF CP hw
  go_wp2_with fail
  refine CF5.out.mono ?_
  rintro e w6 ⟨rfl, n, rfl⟩
  go_wp2_with fail
  go_ret
  exact ⟨rfl, K5.out.drewN n⟩
end Go.Proofs.Ytncenfgnhamdbaa
