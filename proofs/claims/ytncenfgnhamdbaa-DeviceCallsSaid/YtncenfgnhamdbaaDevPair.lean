/-
  The program's device and the document's, side by side.
-/
import Derived.Test.YtncenfgnhamdbaaDevM
import Derived.Test.YtncenfgnhamdbaaDevRefCr
namespace Go.Proofs.Ytncenfgnhamdbaa
open Go.RowKit

section
variable {w w' : World} {g gr : Nat} {v vr : Value} {qs : List PV} {qr : List QV} {d d' : Dv} {R R' : List RPg}
theorem ds_apart (h : DevAt w g v qs d) (k : RAt w gr vr qr R) : ∀ i, DS g v i → ¬ RFoot gr vr qr i := by
  intro i hs hi
  have h1 : ∃ cs t, w.heap[i]? = some (.cells cs t (0, 0)) ∧ (t = 45 ∨ t = 52) := by
    rcases hs with rfl | hs
    · exact ⟨_, _, h.dev, .inl rfl⟩
    · obtain ⟨cs, e⟩ := h.row.cells_ hs
      exact ⟨_, _, e, .inr rfl⟩
  obtain ⟨cs, t, e, ht⟩ := h1
  rcases hi with rfl | hi | ⟨q, hq, hi⟩
  · rw [k.dev] at e
    injection e with e
    injection e with _ e
    rcases ht with rfl | rfl <;> exact absurd e (by decide)
  · obtain ⟨cs', e'⟩ := k.row.cells_ hi
    rw [e'] at e
    injection e with e
    injection e with _ e
    rcases ht with rfl | rfl <;> exact absurd e (by decide)
  · obtain ⟨l, ho⟩ := k.own hq
    rcases ht with rfl | rfl
    · exact ho.ne_ e (by decide) hi
    · exact ho.ne_ e (by decide) hi
theorem rs_apart (h : DevAt w g v qs d) (k : RAt w gr vr qr R) : ∀ i, RS gr vr i → ¬ DFoot g v qs i := by
  intro i hs hi
  have h1 : ∃ cs t, w.heap[i]? = some (.cells cs t (0, 0)) ∧ (t = 48 ∨ t = 54) := by
    rcases hs with rfl | hs
    · exact ⟨_, _, k.dev, .inl rfl⟩
    · obtain ⟨cs, e⟩ := k.row.cells_ hs
      exact ⟨_, _, e, .inr rfl⟩
  obtain ⟨cs, t, e, ht⟩ := h1
  rcases hi with rfl | hi | ⟨q, hq, hi⟩
  · rw [h.dev] at e
    injection e with e
    injection e with _ e
    rcases ht with rfl | rfl <;> exact absurd e (by decide)
  · obtain ⟨cs', e'⟩ := h.row.cells_ hi
    rw [e'] at e
    injection e with e
    injection e with _ e
    rcases ht with rfl | rfl <;> exact absurd e (by decide)
  · obtain ⟨j, hj⟩ := List.mem_iff_getElem?.1 hq
    have hlt : j < d.pages.length := by
      rw [← h.len]
      exact (List.getElem?_eq_some_iff.1 hj).1
    have ho := (h.held.2 j q _ hj (List.getElem?_eq_getElem hlt)).2
    rcases ht with rfl | rfl
    · exact ho.ne_ e (by decide) hi
    · exact ho.ne_ e (by decide) hi
end
/-- Both devices, made behind the world a; no block of N is theirs. -/
structure Pr (N : Nat → Prop) (a w : World) (g : Nat) (d : Dv) (v : Value) (qs : List PV) (gr : Nat) (vr : Value) (qr : List QV) (R : List RPg) : Prop where
  one : DevAt w g v qs d
  two : RAt w gr vr qr R
  keep : KF a w
  low : ∀ i, DFoot g v qs i → a.heap.size ≤ i
  low' : ∀ i, RFoot gr vr qr i → a.heap.size ≤ i
  no : ∀ i, DFoot g v qs i → ¬ N i
  no' : ∀ i, RFoot gr vr qr i → ¬ N i
  lt : ∀ i, N i → i < w.heap.size
def P3 (N : Nat → Prop) (a w : World) (g : Nat) (d : Dv) (gr : Nat) (R : List RPg) : Prop := ∃ v qs vr qr, Pr N a w g d v qs gr vr qr R
def No : Nat → Prop := fun _ => False
section
variable {N : Nat → Prop} {a w w' : World} {g gr : Nat} {v vr v1 vr1 : Value} {qs qs1 : List PV} {qr qr1 : List QV} {d d1 : Dv} {R R1 : List RPg}
theorem Pr.left (h : Pr N a w g d v qs gr vr qr R) (l : DLeft w g v qs d1 v1 qs1 w') : P3 N a w' g d1 gr R :=
  ⟨v1, qs1, vr, qr, l.dev, h.two.kept l.keep (fun i hi hs => ds_apart h.one h.two i hs hi), Keep.trans h.keep l.keep (fun i hi e => by
    have := h.low i (e.imp id .inl)
    omega), fun i hi => (l.foot i hi).elim (h.low i) (fun h1 => Nat.le_trans h.keep.size h1), h.low', fun i hi hn => (l.foot i hi).elim (fun h1 => h.no i h1 hn) (fun h1 => by have := h.lt i hn; omega), h.no', fun i hi => Nat.lt_of_lt_of_le (h.lt i hi) l.keep.size⟩
theorem Pr.right (h : Pr N a w g d v qs gr vr qr R) (l : RLeft w gr vr qr R1 vr1 qr1 w') : P3 N a w' g d gr R1 :=
  ⟨v, qs, vr1, qr1, h.one.kept l.keep (fun i hi hs => rs_apart h.one h.two i hs hi), l.dev, Keep.trans h.keep l.keep (fun i hi e => by
    have := h.low' i (e.imp id .inl)
    omega), h.low, fun i hi => (l.foot i hi).elim (h.low' i) (fun h1 => Nat.le_trans h.keep.size h1), h.no, fun i hi hn => (l.foot i hi).elim (fun h1 => h.no' i h1 hn) (fun h1 => by have := h.lt i hn; omega), fun i hi => Nat.lt_of_lt_of_le (h.lt i hi) l.keep.size⟩
theorem P3.far (h : P3 N a w g d gr R) (k : KF w w') : P3 N a w' g d gr R := by
  obtain ⟨v, qs, vr, qr, h⟩ := h
  exact ⟨v, qs, vr, qr, h.one.far k, h.two.far k, KF.trans h.keep k, h.low, h.low', h.no, h.no', fun i hi => Nat.lt_of_lt_of_le (h.lt i hi) k.size⟩
theorem P3.keep (h : P3 N a w g d gr R) : KF a w := by
  obtain ⟨v, qs, vr, qr, h⟩ := h
  exact h.keep
theorem P3.good (h : P3 N a w g d gr R) : DGood d := by
  obtain ⟨v, qs, vr, qr, h⟩ := h
  exact h.one.good
/-- Blocks that are made now are not theirs. -/
theorem P3.ward (h : P3 No a w g d gr R) (k : KF w w') : P3 (fun i => w.heap.size ≤ i ∧ i < w'.heap.size) a w' g d gr R := by
  obtain ⟨v, qs, vr, qr, h⟩ := h
  exact ⟨v, qs, vr, qr, h.one.far k, h.two.far k, KF.trans h.keep k, h.low, h.low', fun i hi hn => by have := h.one.foot_lt hi; omega, fun i hi hn => by have := h.two.foot_lt hi; omega, fun i hi => hi.2⟩
theorem P3.drop (h : P3 N a w g d gr R) : P3 No a w g d gr R := by
  obtain ⟨v, qs, vr, qr, h⟩ := h
  exact ⟨v, qs, vr, qr, h.one, h.two, h.keep, h.low, h.low', fun _ _ h => h, fun _ _ h => h, fun _ h => h.elim⟩
/-- A store into a block of N. -/
theorem P3.store (h : P3 N a w g d gr R) (k : Keep N w w') (hN : ∀ i, N i → a.heap.size ≤ i) : P3 N a w' g d gr R := by
  obtain ⟨v, qs, vr, qr, h⟩ := h
  exact ⟨v, qs, vr, qr, h.one.kept k h.no, h.two.kept k h.no', Keep.trans h.keep k (fun i hi e => by have := hN i e; omega), h.low, h.low', h.no, h.no', fun i hi => Nat.lt_of_lt_of_le (h.lt i hi) k.size⟩
theorem P3.dappend (h : P3 N a w g d gr R) (A : Option Addr) (b : List UInt8) (n c : Nat) (hn : n = b.length) (hb : b.length ≤ 1000) (hr : Rd w w.heap.size A b) :
    Calls Try.prog 9 #[.pointer (some ⟨g, 0, none⟩), .slice A n c] w fun e w' => e = .returned (.int .i64 (if d.room ≤ d.pages.length then 4 else 0)) ∧ P3 N a w' g (d.push b) gr R ∧ Keep (fun i => a.heap.size ≤ i ∧ ¬ N i) w w' := by
  obtain ⟨v, qs, vr, qr, h⟩ := h
  refine (dappend_any A b n c w h.one hn hb hr).mono ?_
  rintro e w' ⟨rfl, v1, qs1, l⟩
  exact ⟨rfl, h.left l, l.keep.mono (fun i _ hs => ⟨h.low i (hs.imp id .inl), h.no i (hs.imp id .inl)⟩)⟩
theorem P3.rappend (h : P3 N a w g d gr R) (A : Option Addr) (b : List UInt8) (n c : Nat) (hn : n = b.length) (hb : b.length ≤ 1000) (hr : Rd w w.heap.size A b) :
    Calls Try.prog 10 #[.pointer (some ⟨gr, 0, none⟩), .slice A n c] w fun e w' => (e = .returned (.int .i64 (if endR R R.length = R.length then 4 else 0)) ∧ P3 N a w' g d gr (if endR R R.length = R.length then R else R.set (endR R R.length) ⟨1, b, false⟩)) ∧ Keep (fun i => a.heap.size ≤ i ∧ ¬ N i) w w' := by
  obtain ⟨v, qs, vr, qr, h⟩ := h
  refine (rappend8 A b n c w h.two hn hb hr).mono ?_
  intro e w' hd
  split at hd
  · next hf =>
    obtain ⟨rfl, v1, qs1, l⟩ := hd
    rw [if_pos hf, if_pos hf]
    exact ⟨⟨rfl, h.right l⟩, l.keep.mono (fun i _ hs => ⟨h.low' i (hs.imp id .inl), h.no' i (hs.imp id .inl)⟩)⟩
  · next hf =>
    obtain ⟨rfl, v1, qs1, l⟩ := hd
    rw [if_neg hf, if_neg hf]
    exact ⟨⟨rfl, h.right l⟩, l.keep.mono (fun i _ hs => ⟨h.low' i (hs.imp id .inl), h.no' i (hs.imp id .inl)⟩)⟩
theorem P3.dsync (h : P3 N a w g d gr R) : Calls Try.prog 11 #[.pointer (some ⟨g, 0, none⟩)] w fun e w' => e = .returned (.tuple #[]) ∧ P3 N a w' g d.sync gr R := by
  obtain ⟨v, qs, vr, qr, h⟩ := h
  refine (dsync_any w h.one).mono ?_
  rintro e w' ⟨rfl, v1, qs1, l⟩
  exact ⟨rfl, h.left l⟩
theorem P3.rsync (h : P3 N a w g d gr R) : Calls Try.prog 12 #[.pointer (some ⟨gr, 0, none⟩)] w fun e w' => e = .returned (.tuple #[]) ∧ P3 N a w' g d gr (rSync R) := by
  obtain ⟨v, qs, vr, qr, h⟩ := h
  refine (rsync8 w h.two).mono ?_
  rintro e w' ⟨rfl, v1, qs1, l⟩
  exact ⟨rfl, h.right l⟩
theorem P3.dwipe (h : P3 N a w g d gr R) : Calls Try.prog 15 #[.pointer (some ⟨g, 0, none⟩)] w fun e w' => e = .returned (.tuple #[]) ∧ P3 N a w' g d.wipe gr R := by
  obtain ⟨v, qs, vr, qr, h⟩ := h
  refine (dwipe_any w h.one).mono ?_
  rintro e w' ⟨rfl, v1, qs1, l⟩
  exact ⟨rfl, h.left l⟩
theorem P3.rwipe (h : P3 N a w g d gr R) : Calls Try.prog 16 #[.pointer (some ⟨gr, 0, none⟩)] w fun e w' => e = .returned (.tuple #[]) ∧ P3 N a w' g d gr (List.replicate R.length rZero) := by
  obtain ⟨v, qs, vr, qr, h⟩ := h
  refine (rwipe8 w h.two).mono ?_
  rintro e w' ⟨rfl, v1, qs1, l⟩
  exact ⟨rfl, h.right l⟩
theorem P3.dcrash (h : P3 N a w g d gr R) (A : Option Addr) (picks : List UInt8) (n c : Nat) (hn : n = picks.length) (hb : n ≤ 1000000) (hr : Rd w w.heap.size A picks) (hA : ∀ ad : Addr, A = some ad → picks ≠ [] → ad.block < a.heap.size) :
    Calls Try.prog 13 #[.pointer (some ⟨g, 0, none⟩), .slice A n c] w fun e w' => e = .returned (.tuple #[]) ∧ P3 N a w' g (d.crash picks) gr R ∧ Keep (fun i => a.heap.size ≤ i ∧ ¬ N i) w w' := by
  obtain ⟨v, qs, vr, qr, h⟩ := h
  refine (dcrash_any A picks n c w h.one hn hb hr (fun ad e hp hs => ?_)).mono ?_
  · have := h.low _ (hs.imp id .inl)
    have := hA ad e hp
    omega
  · rintro e w' ⟨rfl, v1, qs1, l⟩
    exact ⟨rfl, h.left l, l.keep.mono (fun i _ hs => ⟨h.low i (hs.imp id .inl), h.no i (hs.imp id .inl)⟩)⟩
theorem P3.rcrash (h : P3 N a w g d gr R) (A : Option Addr) (picks : List UInt8) (n c : Nat) (hn : n = picks.length) (hb : n ≤ 1000000) (hr : Rd w w.heap.size A picks) (hA : ∀ ad : Addr, A = some ad → picks ≠ [] → ad.block < a.heap.size) :
    Calls Try.prog 14 #[.pointer (some ⟨gr, 0, none⟩), .slice A n c] w fun e w' => e = .returned (.tuple #[]) ∧ P3 N a w' g d gr (rCrash picks R) := by
  obtain ⟨v, qs, vr, qr, h⟩ := h
  refine (rcrash8 A picks n c w h.two hn hb hr (fun ad e hp hs => ?_)).mono ?_
  · have := h.low' _ (hs.imp id .inl)
    have := hA ad e hp
    omega
  · rintro e w' ⟨rfl, v1, qs1, l⟩
    exact ⟨rfl, h.right l⟩
theorem P3.free (h : P3 N a w g d gr R) : Calls Try.prog 7 #[.pointer (some ⟨g, 0, none⟩)] w fun e w' => e = .returned (.int .i64 ((d.room - d.pages.length : Nat) : Int)) ∧ KF w w' := by
  obtain ⟨v, qs, vr, qr, h⟩ := h
  exact (dfree_any w h.one).mono fun e w' ⟨he, n, hn⟩ => ⟨he, by rw [← hn]; exact (KF.refl w).drewN n⟩
theorem P3.next (h : P3 N a w g d gr R) : Calls Try.prog 21 #[.pointer (some ⟨gr, 0, none⟩)] w fun e w' => e = .returned (.int .i64 ((endR R R.length : Nat) : Int)) ∧ KF w w' := by
  obtain ⟨v, qs, vr, qr, h⟩ := h
  exact (rnext8 w h.two).mono fun e w' ⟨he, hw⟩ => ⟨he, by rw [← hw]; exact KF.refl w⟩
/-- Rows that were given. -/
def RowP (w : World) (ls : List (List UInt8)) (e : Ending) (w' : World) : Prop := ∃ A n c, e = .returned (.slice A n c) ∧ Hid (n = ls.length ∧ RdS w' 0 w'.heap.size A ls) ∧ KF w w'
theorem P3.pages (h : P3 N a w g d gr R) : Calls Try.prog 19 #[.pointer (some ⟨g, 0, none⟩)] w (RowP w (wholes d.pages)) := by
  obtain ⟨v, qs, vr, qr, h⟩ := h
  exact (dpages_any w h.one).mono fun e w' ⟨A, n, c, he, hh, k⟩ => ⟨A, n, c, he, Lib.hid ⟨hh.1, hh.2.2.2.low⟩, k⟩
theorem P3.whole (h : P3 N a w g d gr R) : Calls Try.prog 20 #[.pointer (some ⟨gr, 0, none⟩)] w (RowP w (rWhole R)) := by
  obtain ⟨v, qs, vr, qr, h⟩ := h
  exact (rwhole8 w h.two).mono fun e w' ⟨A, n, c, he, hh, k⟩ => ⟨A, n, c, he, Lib.hid hh, k⟩
theorem crash_again (h : DGood d) : (d.sync.crash []).pages = d.pages ∧ (d.sync.crash []).room = d.room := by
  refine ⟨?_, rfl⟩
  show trim (crashI [] d.pages.length (d.pages.length - d.pages.length) d.pages) = d.pages
  rw [Nat.sub_self, crashI_zero]
  have he : endN d.pages d.pages.length = d.pages.length := by
    rcases hl : d.pages.length with _ | m
    · rfl
    · have hm : m < d.pages.length := by omega
      have hne := h.lastOne _ (by rw [List.getLast?_eq_getElem?, hl, Nat.add_sub_cancel, List.getElem?_eq_getElem hm])
      rw [endN, List.getElem?_eq_getElem hm, Option.map_some, if_neg (fun h' => hne (by injection h'))]
  rw [trim, he]
  exact List.take_length ..
/-- A device, whatever else is. -/
def Tw (w : World) (g : Nat) (d : Dv) : Prop := ∃ v qs, DevAt w g v qs d
theorem Tw.far {g : Nat} (h : Tw w g d) (k : KF w w') : Tw w' g d := by
  obtain ⟨v, qs, h⟩ := h
  exact ⟨v, qs, h.far k⟩
theorem Tw.pages {g : Nat} (h : Tw w g d) : Calls Try.prog 19 #[.pointer (some ⟨g, 0, none⟩)] w (RowP w (wholes d.pages)) := by
  obtain ⟨v, qs, h⟩ := h
  exact (dpages_any w h).mono fun e w' ⟨A, n, c, he, hh, k⟩ => ⟨A, n, c, he, Lib.hid ⟨hh.1, hh.2.2.2.low⟩, k⟩
theorem Tw.free {g : Nat} (h : Tw w g d) : Calls Try.prog 7 #[.pointer (some ⟨g, 0, none⟩)] w fun e w' => e = .returned (.int .i64 ((d.room - d.pages.length : Nat) : Int)) ∧ KF w w' := by
  obtain ⟨v, qs, h⟩ := h
  exact (dfree_any w h).mono fun e w' ⟨he, n, hn⟩ => ⟨he, by rw [← hn]; exact (KF.refl w).drewN n⟩
/-- The twin, and its crash, leave both. -/
theorem P3.twin (h : P3 N a w g d gr R) : Calls Try.prog 17 #[.pointer (some ⟨g, 0, none⟩)] w fun e w1 => ∃ g', e = .returned (.pointer (some ⟨g', 0, none⟩)) ∧ Hid (Calls Try.prog 13 #[.pointer (some ⟨g', 0, none⟩), .slice none 0 0] w1 fun e w2 => e = .returned (.tuple #[]) ∧ Hid (KF w w2 ∧ ∃ d', d'.pages = d.pages ∧ d'.room = d.room ∧ Tw w2 g' d')) := by
  obtain ⟨v, qs, vr, qr, h⟩ := h
  refine (dtwin_any w h.one).mono ?_
  rintro e w1 ⟨g', v', rfl, t⟩
  have hds : ∀ i, DS g' v' i → w.heap.size ≤ i := by
    rintro i (rfl | hi)
    · exact t.new
    · exact t.nb i hi
  refine ⟨g', rfl, Lib.hid ((dcrash_any none [] 0 0 w1 t.dev rfl (by decide) Rd.nil (fun ad e => by cases e)).mono ?_)⟩
  rintro e w2 ⟨rfl, v2, qs2, l⟩
  have k2 : KF w w2 := Keep.trans t.keep l.keep (fun i hi hs => by have := hds i hs; omega)
  obtain ⟨hp, hr⟩ := crash_again h.one.good
  exact ⟨rfl, Lib.hid ⟨k2, d.sync.crash [], hp, hr, v2, qs2, l.dev⟩⟩
end
end Go.Proofs.Ytncenfgnhamdbaa
