/-
  A device and its twin, both of the law's own.
-/
import Derived.Test.YtncenfgnhamdbabDevM
namespace Go.Proofs.Ytncenfgnhamdbab
open Go.RowKit

theorem i64_and1 (n : Int) : bits .and .i64 n 1 = n % 2 := by
  have h127 : (BitVec.ofInt 64 1).toNat = 2 ^ 1 - 1 := by decide
  have key : (BitVec.ofInt 64 n &&& BitVec.ofInt 64 1).toNat = (n % ((2 ^ 64 : Nat) : Int)).toNat % 2 ^ 1 := by
    rw [BitVec.toNat_and, BitVec.toNat_ofInt, h127, Nat.and_two_pow_sub_one_eq_mod]
  show IntKind.i64.wrap ((BitVec.ofInt 64 n &&& BitVec.ofInt 64 1).toNat : Nat) = n % 2
  rw [key, IntKind.wrap_i64]
  omega
structure Mn2 (a w : World) (g : Nat) (d : Dv) (g' : Nat) (d' : Dv) (v : Value) (qs : List PV) (v' : Value) (qs' : List PV) : Prop where
  one : Mn a w g d v qs
  two : Mn a w g' d' v' qs'
  apart : ∀ i, DS g v i → ¬ DFoot g' v' qs' i
  apart' : ∀ i, DS g' v' i → ¬ DFoot g v qs i
def M2 (a w : World) (g : Nat) (d : Dv) (g' : Nat) (d' : Dv) : Prop := ∃ v qs v' qs', Mn2 a w g d g' d' v qs v' qs'
section
variable {a w w0 w1 : World} {g g' : Nat} {d d' d1 : Dv} {v v' v1 : Value} {qs qs' qs1 : List PV}
theorem M2.swap (h : M2 a w g d g' d') : M2 a w g' d' g d := by
  obtain ⟨v, qs, v', qs', h⟩ := h
  exact ⟨v', qs', v, qs, h.two, h.one, h.apart', h.apart⟩
theorem M2.fst (h : M2 a w g d g' d') : M a w g d := by
  obtain ⟨v, qs, v', qs', h⟩ := h
  exact ⟨v, qs, h.one⟩
theorem M2.far (h : M2 a w g d g' d') (k : KF w w1) : M2 a w1 g d g' d' := by
  obtain ⟨v, qs, v', qs', h⟩ := h
  exact ⟨v, qs, v', qs', ⟨h.one.dev.far k, KF.trans h.one.keep k, h.one.low⟩, ⟨h.two.dev.far k, KF.trans h.two.keep k, h.two.low⟩, h.apart, h.apart'⟩
theorem Mn2.left (h : Mn2 a w g d g' d' v qs v' qs') (l : DLeft w g v qs d1 v1 qs1 w1) : M2 a w1 g d1 g' d' := by
  have kk : KF a w1 := Keep.trans h.one.keep l.keep (fun i hi e => by
    have := h.one.low i (e.imp id .inl)
    omega)
  refine ⟨v1, qs1, v', qs', ⟨l.dev, kk, fun i hi => (l.foot i hi).elim (h.one.low i) (fun h1 => Nat.le_trans h.one.keep.size h1)⟩, ⟨h.two.dev.kept l.keep (fun i hi hs => h.apart i hs hi), kk, h.two.low⟩, fun i hs hi => ?_, fun i hs hi => ?_⟩
  · have hlt := h.two.dev.foot_lt hi
    rcases hs with rfl | hs
    · exact h.apart i (.inl rfl) hi
    · rcases l.row with hr | hr
      · exact h.apart i (.inr (hr ▸ hs)) hi
      · have := hr i hs
        omega
  · have hlt := h.two.dev.foot_lt (hs.imp id .inl)
    rcases l.foot i hi with h1 | h1
    · exact h.apart' i hs h1
    · omega
theorem M2.append (h : M2 a w g d g' d') (A : Option Addr) (b : List UInt8) (n c : Nat) (hn : n = b.length) (hb : b.length ≤ 1000) (hr : Rd w w.heap.size A b) :
    Calls Try.prog 8 #[.pointer (some ⟨g, 0, none⟩), .slice A n c] w fun e w' => e = .returned (.int .i64 (if d.room ≤ d.pages.length then 4 else 0)) ∧ M2 a w' g (d.push b) g' d' := by
  obtain ⟨v, qs, v', qs', h⟩ := h
  refine (dappend_any A b n c w h.one.dev hn hb hr).mono ?_
  rintro e w' ⟨rfl, v1, qs1, l⟩
  exact ⟨rfl, h.left l⟩
theorem M2.wipe (h : M2 a w0 g d g' d') (k : KF w0 w) :
    Calls Try.prog 11 #[.pointer (some ⟨g, 0, none⟩)] w fun e w' => e = .returned (.tuple #[]) ∧ M2 a w' g d.wipe g' d' ∧ Keep (fun i => a.heap.size ≤ i ∧ i < w0.heap.size) w w' := by
  obtain ⟨v, qs, v', qs', h⟩ := h
  have h2 : Mn2 a w g d g' d' v qs v' qs' := ⟨⟨h.one.dev.far k, KF.trans h.one.keep k, h.one.low⟩, ⟨h.two.dev.far k, KF.trans h.two.keep k, h.two.low⟩, h.apart, h.apart'⟩
  refine (dwipe_any w h2.one.dev).mono ?_
  rintro e w' ⟨rfl, v1, qs1, l⟩
  exact ⟨rfl, h2.left l, l.keep.mono fun i _ hs => ⟨h.one.low i (hs.imp id .inl), h.one.dev.foot_lt (hs.imp id .inl)⟩⟩
theorem M.twin (h : M a w g d) : Calls Try.prog 12 #[.pointer (some ⟨g, 0, none⟩)] w fun e w' => ∃ g', e = .returned (.pointer (some ⟨g', 0, none⟩)) ∧ M2 a w' g d g' d.sync ∧ w.heap.size ≤ g' := by
  obtain ⟨v, qs, h⟩ := h
  refine (dtwin_any w h.dev).mono ?_
  rintro e w' ⟨g', v', rfl, t⟩
  have hs := h.keep.size
  refine ⟨g', rfl, ⟨v, qs, v', qs, ⟨h.dev.far t.keep, KF.trans h.keep t.keep, h.low⟩, ⟨t.dev, KF.trans h.keep t.keep, ?_⟩, ?_, ?_⟩, t.new⟩
  · rintro i (rfl | hi | ⟨q, hq, hi⟩)
    · exact Nat.le_trans hs t.new
    · exact Nat.le_trans hs (t.nb i hi)
    · exact h.low i (.inr (.inr ⟨q, hq, hi⟩))
  · rintro i hi (rfl | hi2 | ⟨q, hq, hi2⟩)
    · have := h.dev.foot_lt (hi.imp id .inl)
      have := t.new
      omega
    · have := h.dev.foot_lt (hi.imp id .inl)
      have := t.nb i hi2
      omega
    · exact h.dev.held_S q hq i hi2 hi
  · rintro i hi hi2
    have := h.dev.foot_lt hi2
    rcases hi with rfl | hi
    · have := t.new
      omega
    · have := t.nb i hi
      omega
end
end Go.Proofs.Ytncenfgnhamdbab
