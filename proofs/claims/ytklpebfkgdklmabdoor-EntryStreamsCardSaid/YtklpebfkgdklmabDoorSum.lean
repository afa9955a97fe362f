/-
  WALKS: check.More, check.Sum, the example of the law's own 'speaks'.
-/
import Derived.Test.YtklpebfkgdklmabDoorRows
import Derived.Test.YtklpebfkgdklmabDoorBase
import Derived.Test.YtklpebfkgdklmabDoorCrc
namespace Go.Proofs.YtklpebfkgdklmabDoor
open Go.RowKit
/-- The table stands in its block. -/
def Tab (w : World) : Prop := ∀ i : Nat, i < 16 → w.cell? ⟨0, i, none⟩ = some (.int .u32 (tab.getD i 0 : Nat))
theorem and15 (t : Nat) (ht : t < 4294967296) : bits .and .u32 (t : Int) 15 = ((t % 16 : Nat) : Int) := by
  have h := u32_and_nat t 15 ht (by omega)
  rw [show ((15 : Nat) : Int) = (15 : Int) from rfl] at h
  rw [h, show (15 : Nat) = 2 ^ 4 - 1 from rfl, Nat.and_two_pow_sub_one_eq_mod]
def Nibs (t0 j t1 : Nat) : Prop := (j = 0 ∧ t1 = t0) ∨ (j = 1 ∧ t1 = nib t0) ∨ (j = 2 ∧ t1 = nib (nib t0))
theorem nibs_step {t0 j t1 : Nat} (hj : j < 2) (h : Nibs t0 j t1) : Nibs t0 (j + 1) (nib t1) := by
  rcases h with ⟨rfl, rfl⟩ | ⟨rfl, rfl⟩ | ⟨rfl, rfl⟩
  · exact .inr (.inl ⟨rfl, rfl⟩)
  · exact .inr (.inr ⟨rfl, rfl⟩)
  · omega
theorem run_step {s0 s1 k t0 t1 : Nat} {l : List UInt8} {b : UInt8} (hk : k < l.length) (h : s1 = run s0 (l.take k)) (hb : l[k] = b) (hx : s1 ^^^ b.toNat = t0) (hn : Nibs t0 2 t1) :
    Hid (t1 = run s0 (l.take (k + 1))) := by
  show t1 = run s0 (l.take (k + 1))
  rcases hn with ⟨h0, _⟩ | ⟨h0, _⟩ | ⟨_, rfl⟩
  · omega
  · omega
  · rw [List.take_succ_eq_append_getElem hk, run_append, ← h]
    simp [run, byt, hx, hb]
set_option maxHeartbeats 400000 in
theorem more_any (s : Nat) (hs : s < 4294967296) (A : Option Addr) (l : List UInt8) (c : Nat) (w : World) (hn : l.length ≤ 4611686018427387904)
    (ht : Tab w)
    (B : Nat) (hr : Rd w B A l) :
    Calls Tryd.prog 49 #[.int .u32 s, .slice A l.length c] w fun e w' => e = .returned (.int .u32 (crcMore s l : Nat)) ∧ w = w' := by
  have hx := u32_xor_nat 4294967295 s (by omega) hs
  have hx' : bits .xor .u32 IntKind.u32.max (s : Int) = ((4294967295 ^^^ s : Nat) : Int) := hx
  clear hx
  have hs0 := xor_lt 4294967295 s (by omega) hs
  unfold crcMore
  generalize 4294967295 ^^^ s = s0 at *
  go_enter Tryd.func49, Tryd.ntmps49
  go_wp2
  clear hx'
  go_loop [5, 12] (fun t i => ∃ k s1 : Nat, k ≤ l.length ∧ i = .int .i64 k ∧ s1 < 4294967296 ∧ Hid (s1 = run s0 (l.take k)) ∧ t = .int .u32 s1) (fun _ i => l.length - (intOf i).toNat)
  case atStart => exact ⟨0, s0, Nat.zero_le _, rfl, hs0, rfl, rfl⟩
  case round =>
    obtain ⟨k, s1, hk, rfl, hs1, H, rfl⟩ := hrel
    by_cases hlt : k < l.length
    · obtain ⟨a, rfl, _, hcell⟩ := hr.cells hlt
      have hb := l[k].toNat_lt
      generalize hbk : l[k] = b at *
      have HB := Lib.hid hbk
      clear hbk
      have hb' : b.toNat < 4294967296 := by omega
      have hxb := u32_xor_nat s1 b.toNat hs1 hb'
      have ht0 := xor_lt s1 b.toNat hs1 hb'
      generalize hx0 : s1 ^^^ b.toNat = t0 at *
      have HX := Lib.hid hx0
      clear hx0 hb'
      go_wp2
      clear hxb
      go_loop [5, 20] (fun t i => ∃ j t1 : Nat, j ≤ 2 ∧ i = .int .i64 j ∧ t1 < 4294967296 ∧ Nibs t0 j t1 ∧ t = .int .u32 t1) (fun _ i => 2 - (intOf i).toNat)
      case atStart => exact ⟨0, t0, by omega, rfl, ht0, .inl ⟨rfl, rfl⟩, rfl⟩
      case round =>
        obtain ⟨j, t1, hj, rfl, ht1, HN, rfl⟩ := hrel
        have ha := and15 t1 ht1
        have hc15 : w.cell? ⟨0, t1 % 16, none⟩ = some (.int .u32 (tab.getD (t1 % 16) 0 : Nat)) := ht _ (by omega)
        have hm : t1 % 16 < 16 := by omega
        have hnl := nib_lt t1 ht1
        have HA : (bits .xor .u32 ((t1 : Int) / 16) ((tab[t1 % 16]?.getD 0 : Nat) : Int)) = ((nib t1 : Nat) : Int) := by
          have h := u32_xor_nat (t1 / 16) (tab.getD (t1 % 16) 0) (by omega) (tab_lt _)
          simpa [nib] using h
        have HA' := Lib.hid HA
        clear HA
        by_cases hj2 : j < 2
        · go_wp2
          go_round
          case rel => exact ⟨j + 1, nib t1, by omega, by go_num, hnl, nibs_step hj2 HN, by rw [HA'.out]⟩
          case measure => simp [intOf]; omega
        · obtain rfl : j = 2 := by omega
          go_wp2
          go_round
          case rel => exact ⟨k + 1, t1, by omega, by go_num, ht1, run_step hlt H.out HB.out HX.out HN, rfl⟩
          case measure => simp [intOf]; omega
    · obtain rfl : k = l.length := by omega
      have hxe := u32_xor_nat 4294967295 s1 (by omega) hs1
      have hxe' : bits .xor .u32 IntKind.u32.max (s1 : Int) = ((4294967295 ^^^ s1 : Nat) : Int) := hxe
      clear hxe
      have HE := Lib.hid hxe'
      clear hxe'
      go_wp2
      go_ret
      rw [HE.out]
      have := H.out
      rw [List.take_length] at this
      exact ⟨by rw [this]; rfl, rfl⟩

theorem sum_any (A : Option Addr) (l : List UInt8) (n c : Nat) (w : World) (hl : n = l.length) (hn : l.length ≤ 4611686018427387904) (ht : Tab w) (B : Nat) (hr : Rd w B A l) :
    Calls Tryd.prog 44 #[.slice A n c] w fun e w' => e = .returned (.int .u32 (crc l : Nat)) ∧ w = w' := by
  subst hl
  go_enter Tryd.func44, Tryd.ntmps44
  have h0 := more_any 0 (by omega) A l c w hn ht B hr
  rw [Int.natCast_zero] at h0
  have H := Lib.hid h0
  clear h0
  go_wp2_with (go_at_call 49; refine H.out.mono ?_; rintro e w' ⟨rfl, rfl⟩)
  go_ret
  exact ⟨rfl, rfl⟩

/-- The two contracts with the sums under names. -/
theorem more_is {s : Nat} (hs : s < 4294967296) {A : Option Addr} {l : List UInt8} {n c x : Nat} {w : World} (hl : n = l.length) (hn : l.length ≤ 4611686018427387904) (ht : Tab w) {B : Nat} (hr : Rd w B A l) (hx : crcMore s l = x) :
    Hid (Calls Tryd.prog 49 #[.int .u32 s, .slice A n c] w fun e w' => e = .returned (.int .u32 x) ∧ w = w') := by
  subst hl hx
  exact more_any s hs A l c w hn ht B hr
theorem sum_is {A : Option Addr} {l : List UInt8} {n c x : Nat} {w : World} (hl : n = l.length) (hn : l.length ≤ 4611686018427387904) (ht : Tab w) {B : Nat} (hr : Rd w B A l) (hx : crc l = x) :
    Hid (Calls Tryd.prog 44 #[.slice A n c] w fun e w' => e = .returned (.int .u32 x) ∧ w = w') := by
  subst hx
  exact sum_any A l n c w hl hn ht B hr

def said : List UInt8 := [49, 50, 51, 52, 53, 54, 55, 56, 57]
theorem crc_said : crc said = 3421780262 := by decide +kernel
theorem Tab.kept {S : Nat → Prop} {w w' : World} (h : Tab w) (hk : Keep S w w') (hs : ¬ S 0) : Tab w' := fun i hi => by
  have hc := h i hi
  exact (hk.cell (p := ⟨0, i, none⟩) (World.block_lt_of_cell? w _ hc) hs).trans hc
theorem Tab.lt {w : World} (h : Tab w) : 0 < w.heap.size := World.block_lt_of_cell? w _ (h 0 (by omega))
end Go.Proofs.YtklpebfkgdklmabDoor
