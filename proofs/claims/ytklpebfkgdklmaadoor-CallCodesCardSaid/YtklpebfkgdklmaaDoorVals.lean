/-
  WALKS: slices.Values of texts: its iterator, by whatever state the caller keeps; octet.PutList of texts.
-/
import Derived.Test.YtklpebfkgdklmaaDoorWn
import Derived.Test.YtklpebfkgdklmaaDoorRange
import Derived.Shelf.Abstract
import Derived.Shelf.RegionOpen
import Derived.OwnWalkIn
import Derived.TacticsInMore
import Derived.LoopNIn
import Derived.LoopIn
namespace Go.Proofs.YtklpebfkgdklmaaDoor
open Go.RowKit Go.Shelf
attribute [local go_sem] Oper.semAt_some

def VI {α : Type} (xs : List α) (S : Nat → World → Prop) (pre : List α) (X : World) : Prop := (∃ rest, xs = pre ++ rest) ∧ S pre.length X
def VM {α : Type} (xs : List α) (S : Nat → World → Prop) (pre : List α) (x : α) (X : World) : Prop := (∃ rest, xs = pre ++ x :: rest) ∧ S pre.length X
def VD {α : Type} (xs : List α) (S : Nat → World → Prop) (pre : List α) (X : World) : Prop := xs = pre ∧ S pre.length X
theorem VI.stands {α : Type} {xs : List α} {b : Nat} {S : Nat → World → Prop} {pre : List α} (hS : ∀ k, Stands b (S k)) : Stands b (VI xs S pre) := fun X i o o' hi ho hc h => ⟨h.1, hS _ X i o o' hi ho hc h.2⟩
theorem VM.stands {α : Type} {xs : List α} {b : Nat} {S : Nat → World → Prop} {pre : List α} {x : α} (hS : ∀ k, Stands b (S k)) : Stands b (VM xs S pre x) := fun X i o o' hi ho hc h => ⟨h.1, hS _ X i o o' hi ho hc h.2⟩
theorem VD.stands {α : Type} {xs : List α} {b : Nat} {S : Nat → World → Prop} {pre : List α} (hS : ∀ k, Stands b (S k)) : Stands b (VD xs S pre) := fun X i o o' hi ho hc h => ⟨h.1, hS _ X i o o' hi ho hc h.2⟩

theorem values_any (A : Option Addr) (n c : Nat) (w : World) :
    Calls Tryd.prog 57 #[.slice A n c] w fun e w' => e = .returned (.func (.func 79) #[] #[.pointer (some ⟨w.heap.size, 0, none⟩)]) ∧ w.alloc (.cells #[.slice A n c] 26) = w' := by
  go_enter Tryd.func57, Tryd.ntmps57
  go_wp2
  go_ret
  exact ⟨rfl, rfl⟩
set_option maxRecDepth 100000 in
set_option maxHeartbeats 1000000 in
theorem iter_vals (xs : List Txt) (S : Nat → World → Prop) (bv : Nat) (A : Option Addr) (n c : Nat) (hn : n = xs.length) (hn9 : n ≤ 4611686018427387904)
    (hSv : ∀ k X, S k X → X.heap[bv]? = some (.cells #[.slice A n c] 26 (0, 0))) (hSs : ∀ k X, S k X → Strs X X.heap.size A (xs.map ba)) (l : Nat) (BK : World → Prop)
    (hY : ∀ pre x X, VM xs S pre x X → BK X → YieldAt Fence.wide (3 - 1 - 1) Tryd.prog l #[.string (ba x)] X fun e Y => e = .returned (.bool true) ∧ VI xs S (pre ++ [x]) Y ∧ BK Y)
    (W : World) (h0 : VI xs S [] W) (hb : BK W) :
    CallsIn Fence.wide (3 - 1) Tryd.prog 79 #[.func (.yield l) #[] #[], .pointer (some ⟨bv, 0, none⟩)] W fun e Y => (∃ v, e = .returned v) ∧ BK Y ∧ ∃ ys, VD xs S ys Y := by
  have hcV : W.cell? ⟨bv, 0, none⟩ = some (.slice A n c) := by simp [World.cell?, hSv _ _ h0.2]
  have HN := Lib.hid hn
  clear hn
  refine callsIn_of_wp Tryd.func79 rfl trivial ?_ rfl
  simp only [Tryd.ntmps79, List.size_toArray, List.length_cons, List.length_nil, Nat.reduceAdd, Nat.reduceSub, Array.replicate_succ, Array.replicate_zero, List.push_toArray, List.append_toArray, List.nil_append, List.cons_append]
  gi_wp2
  gi_loopw [7] (fun i wr => ∃ pre : List Txt, i = .int .i64 pre.length ∧ VI xs S pre wr ∧ BK wr) (fun i _ => n - (intOf i).toNat)
  case atStart => exact ⟨[], rfl, h0, hb⟩
  case round =>
    obtain ⟨pre, rfl, ⟨⟨rest, hr⟩, hS⟩, hB⟩ := hrel
    rcases rest with _ | ⟨x, rest⟩
    · have hlen : xs.length = pre.length := by rw [hr]; simp
      have hcond : ¬ ((pre.length : Int) < n) := by have := HN.out; omega
      have HD := Lib.hid (show VD xs S pre wr from ⟨by rw [hr]; simp, hS⟩)
      clear hr hlen hS
      gi_wp2
      go_end0
      exact ⟨⟨_, rfl⟩, hB, pre, HD.out⟩
    · have hlen : xs.length = pre.length + (rest.length + 1) := by rw [hr]; simp
      have hcond : ((pre.length : Int) < n) := by have := HN.out; omega
      have hx : (xs.map ba)[pre.length]? = some (ba x) := by rw [hr]; simp
      obtain ⟨b, o, rfl, hbb, hcell⟩ := hSs _ _ hS pre.length (ba x) hx
      have hM : VM xs S pre x wr := ⟨⟨rest, hr⟩, hS⟩
      obtain ⟨fn, tmps, assign, body, hy, hR⟩ := hY pre x wr hM hB
      have HNL := Lib.hid hlen
      clear hr hlen hx hM
      gi_wp2
      refine hR.mono ?_
      rintro e w2 ⟨rfl, hI2, hB2⟩
      clear hR hy
      gi_wp2
      refine ⟨⟨pre ++ [x], by simp, hI2, hB2⟩, ?_⟩
      have h1 := HN.out
      have h2 := HNL.out
      simp only [intOf]
      omega

theorem Own.cells_ {E : TypeId} {w : World} {v : Value} {l : List UInt8} (h : Own E w v l) {i : Nat} (hi : v.ownBlock = some i) : ∃ cs, w.heap[i]? = some (.cells cs E (0, 0)) := by
  rcases h.2 with ⟨rfl, _⟩ | ⟨g, cap, cur, rfl, _, hg, _⟩
  · simp [Value.ownBlock] at hi
  · simp [Value.ownBlock] at hi
    subst hi
    exact ⟨_, hg⟩
theorem Strs.keepB {S : Nat → Prop} {w w' : World} {B : Nat} {A : Option Addr} {xs : List ByteArray} (h : Strs w B A xs) (hB : B ≤ w.heap.size) (k : Keep S w w') (hS : ∀ i, i < B → ¬ S i) : Strs w' w'.heap.size A xs := fun j x hj => by
  obtain ⟨b, o, rfl, hb, hc⟩ := h j x hj
  exact ⟨b, o, rfl, by have := k.size; omega, (k.cell (p := ⟨b, o + j, none⟩) (by show b < _; omega) (hS b hb)).trans hc⟩
/-- The state of a list that is put: the writer has put L; the three boxes. -/
structure PS (w : World) (g bw bo bv : Nat) (tw tO tv : TypeId) (v0 : Value) (F : Nat) (A : Option Addr) (n c : Nat) (L : List UInt8) (X : World) : Prop where
  wr : ∃ v, Wr X g v L ∧ (v.ownBlock = v0.ownBlock ∨ ∃ k, v.ownBlock = some k ∧ w.heap.size ≤ k)
  keep : Keep (WS g v0) w X
  cw : X.heap[bw]? = some (.cells #[.pointer (some ⟨g, 0, none⟩)] tw (0, 0))
  co : X.heap[bo]? = some (.cells #[.func (.func F) #[] #[]] tO (0, 0))
  cv : X.heap[bv]? = some (.cells #[.slice A n c] tv (0, 0))
section
variable {w : World} {g bw bo bv : Nat} {tw tO tv : TypeId} {v0 : Value} {F : Nat} {A : Option Addr} {n c : Nat} {L L' : List UInt8} {X Y : World}
theorem PS.stands {b : Nat} (h1 : bw < b) (h2 : bo < b) (h3 : bv < b) (h4 : w.heap.size ≤ b) (h5 : g < b) : Stands b (PS w g bw bo bv tw tO tv v0 F A n c L) := fun X i o o' hi ho hc h => by
  have hk := keep_put X i o'
  obtain ⟨v, hw, hv⟩ := h.wr
  refine ⟨⟨v, hw.kept hk (by omega) (fun k hk2 he => ?_), hv⟩, h.keep.trans hk (fun j hj e => by omega), (hk.block _ (lt_of_block h.cw) (by omega)).trans h.cw, (hk.block _ (lt_of_block h.co) (by omega)).trans h.co, (hk.block _ (lt_of_block h.cv) (by omega)).trans h.cv⟩
  obtain ⟨cs, e⟩ := hw.own.cells_ hk2
  rw [he, ho] at e
  injection e with e
  rw [e] at hc
  cases hc
theorem PS.kept (h : PS w g bw bo bv tw tO tv v0 F A n c L X) (k : KF X Y) : PS w g bw bo bv tw tO tv v0 F A n c L Y := by
  obtain ⟨v, hw, hv⟩ := h.wr
  exact ⟨⟨v, hw.kept k (fun h => h) (fun _ _ h => h), hv⟩, h.keep.trans k (fun _ _ h => h.elim), (k.block _ (lt_of_block h.cw) (fun h => h)).trans h.cw, (k.block _ (lt_of_block h.co) (fun h => h)).trans h.co, (k.block _ (lt_of_block h.cv) (fun h => h)).trans h.cv⟩
theorem PS.put {v : Value} {e : Ending} (h : PS w g bw bo bv tw tO tv v0 F A n c L X) (hw : Wr X g v L) (hv : v.ownBlock = v0.ownBlock ∨ ∃ k, v.ownBlock = some k ∧ w.heap.size ≤ k) (hp : Put X g v L' e Y) (hb : g ≠ bw ∧ g ≠ bo ∧ g ≠ bv) (ht : 5 ≠ tw ∧ 5 ≠ tO ∧ 5 ≠ tv) :
    PS w g bw bo bv tw tO tv v0 F A n c L' Y ∧ ∀ b, KeepsFrom b X Y := by
  obtain ⟨_, v', hw', hk, hf⟩ := hp
  have n1 : ¬ WS g v bw := by rintro (h' | h'); omega; exact hw.own.ne_ h.cw ht.1 h'
  have n2 : ¬ WS g v bo := by rintro (h' | h'); omega; exact hw.own.ne_ h.co ht.2.1 h'
  have n3 : ¬ WS g v bv := by rintro (h' | h'); omega; exact hw.own.ne_ h.cv ht.2.2 h'
  refine ⟨⟨⟨v', hw', nb_trans h.keep.size hv hf⟩, h.keep.trans hk (ws_sub hv), (hk.block _ (lt_of_block h.cw) n1).trans h.cw, (hk.block _ (lt_of_block h.co) n2).trans h.co, (hk.block _ (lt_of_block h.cv) n3).trans h.cv⟩, fun b => keepsFrom_of hk (fun i hi => ?_) b⟩
  rcases hi with rfl | hi
  · exact ⟨_, _, _, hw.block⟩
  · obtain ⟨cs, e⟩ := hw.own.cells_ hi
    exact ⟨_, _, _, e⟩
end
/-- What a list puts. -/
def lst {α : Type} (enc : α → List UInt8) (xs : List α) : List UInt8 := be xs.length 4 ++ xs.flatMap enc
set_option maxRecDepth 100000 in
set_option maxHeartbeats 1000000 in
theorem putList_any (F : Nat) (eF : ∀ args W, (callFunc F args).run Tryd.prog W = .ok (.enter F args) W) (enc : Txt → List UInt8) (xs : List Txt) (g : Nat) (v0 : Value) (l0 : List UInt8) (A : Option Addr) (n c B : Nat) (w : World) (hw : Wr w g v0 l0) (hn : n = xs.length) (hn9 : n ≤ 1000000000)
    (hl : ∀ k, (l0 ++ be n 4 ++ (xs.take k).flatMap enc).length ≤ 35184372088832) (hr : Strs w B A (xs.map ba)) (hB : B ≤ w.heap.size) (hBS : ∀ i, i < B → ¬ WS g v0 i)
    (hF : ∀ v l x X, x ∈ xs → l.length ≤ 35184372088832 → Wr X g v l → Calls Tryd.prog F #[.pointer (some ⟨g, 0, none⟩), .string (ba x)] X (Put X g v (l ++ enc x))) :
    Calls Tryd.prog 31 #[.pointer (some ⟨g, 0, none⟩), .slice A n c, .func (.func F) #[] #[]] w (Put w g v0 (l0 ++ lst enc xs)) := by
  have hglt := hw.lt
  obtain ⟨w1, hw1⟩ : ∃ w1, (w.alloc (.cells #[.pointer (some ⟨g, 0, none⟩)] 54)).alloc (.cells #[.func (.func F) #[] #[]] 59) = w1 := ⟨_, rfl⟩
  have k01 : KF w w1 := by rw [← hw1]; exact ((KF.refl w).alloc _).alloc _
  have hz1 : w1.heap.size = w.heap.size + 1 + 1 := by rw [← hw1]; simp
  have b1 : w1.heap[w.heap.size]? = some (.cells #[.pointer (some ⟨g, 0, none⟩)] 54 (0, 0)) := by
    rw [← hw1, Below.heap_alloc _ _ _ (by simp)]
    exact World.alloc_heap_new w _
  have b2 : w1.heap[w.heap.size + 1]? = some (.cells #[.func (.func F) #[] #[]] 59 (0, 0)) := by
    rw [← hw1]
    have := World.alloc_heap_new (w.alloc (.cells #[.pointer (some ⟨g, 0, none⟩)] 54)) (.cells #[.func (.func F) #[] #[]] 59)
    rwa [World.size_alloc] at this
  have hw1r : Wr w1 g v0 l0 := hw.kept k01 (fun h => h) (fun _ _ h => h)
  have hc1 : w1.cell? ⟨w.heap.size, 0, none⟩ = some (.pointer (some ⟨g, 0, none⟩)) := by simp [World.cell?, b1]
  have hl00 : l0.length ≤ 35184372088832 := by have := hl 0; simp at this; omega
  have C := Lib.hid (wcount_any g v0 l0 n w1 hw1r (by omega) (by omega))
  have HN := Lib.hid hn
  have HR := Lib.hid hr
  have hkp := Lib.hid k01
  have hb1 := Lib.hid b1
  have hb2 := Lib.hid b2
  clear hn hr hl00 hw1r k01 b1 b2
  refine (callsIn_wide (n := 3)).1 ?_
  refine callsIn_of_wp_marks Tryd.func31 rfl trivial ?_ rfl
  simp only [Tryd.ntmps31, List.size_toArray, List.length_cons, List.length_nil, Nat.reduceAdd, Nat.reduceSub, Array.replicate_succ, Array.replicate_zero, List.push_toArray, List.append_toArray, List.nil_append, List.cons_append]
  subst hw1
  gi_wp2_with (first
    | (refine ⟨trivial, ?_⟩; gi_at_call 55; refine (callsIn_wide.2 C.out).mono ?_; rintro e w2 ⟨rfl, v1, hw2, hk2, hf2⟩)
    | (refine ⟨trivial, ?_⟩; gi_at_call 57; refine (callsIn_wide.2 (values_any _ _ _ _)).mono ?_; rintro e w3 ⟨rfl, rfl⟩))
  have hz2 := hk2.size
  rw [hz1] at hz2
  have n1 : ¬ WS g v0 w.heap.size := by rintro (h | h); omega; have := hw.own.lt _ h; omega
  have n2 : ¬ WS g v0 (w.heap.size + 1) := by rintro (h | h); omega; have := hw.own.lt _ h; omega
  have kw2 : Keep (WS g v0) w w2 := (Keep.mono hkp.out (fun _ _ h => h.elim)).trans hk2 (fun i hi h => h)
  have c1 : w2.heap[w.heap.size]? = some (.cells #[.pointer (some ⟨g, 0, none⟩)] 54 (0, 0)) := (hk2.block _ (by omega) n1).trans hb1.out
  have c2 : w2.heap[w.heap.size + 1]? = some (.cells #[.func (.func F) #[] #[]] 59 (0, 0)) := (hk2.block _ (by omega) n2).trans hb2.out
  have hf2' : v1.ownBlock = v0.ownBlock ∨ ∃ k, v1.ownBlock = some k ∧ w.heap.size ≤ k := by
    rcases hf2 with h | ⟨k, hk, hle⟩
    · exact .inl h
    · exact .inr ⟨k, hk, by omega⟩
  obtain ⟨W0, hW0⟩ : ∃ W0, w2.alloc (.cells #[.slice A n c] 26) = W0 := ⟨_, rfl⟩
  have k20 : KF w2 W0 := by rw [← hW0]; exact (KF.refl w2).alloc _
  have hzW : W0.heap.size = w2.heap.size + 1 := by rw [← hW0]; simp
  have hS0 : PS w g w.heap.size (w.heap.size + 1) w2.heap.size 54 59 26 v0 F A n c (l0 ++ be n 4 ++ (xs.take 0).flatMap enc) W0 := by
    have e0 : l0 ++ be n 4 ++ (xs.take 0).flatMap enc = l0 ++ be n 4 := by simp
    rw [e0]
    exact ⟨⟨v1, hw2.kept k20 (fun h => h) (fun _ _ h => h), hf2'⟩, kw2.trans k20 (fun _ _ h => h.elim), (k20.block _ (by omega) (fun h => h)).trans c1, (k20.block _ (by omega) (fun h => h)).trans c2, by rw [← hW0]; exact World.alloc_heap_new w2 _⟩
  have hst : ∀ k, Stands W0.heap.size (PS w g w.heap.size (w.heap.size + 1) w2.heap.size 54 59 26 v0 F A n c (l0 ++ be n 4 ++ (xs.take k).flatMap enc)) := fun k => PS.stands (by omega) (by omega) (by omega) (by omega) (by omega)
  rw [hW0]
  clear hW0 hc1 C hw2 hk2 hf2 c1 c2 kw2 hf2' k20
  refine range_law rfl (by omega) (gf := 79) (lb := #[.pointer (some ⟨w2.heap.size, 0, none⟩)]) rfl trivial (enters_of Tryd.func79 (by kernel_rfl) rfl)
    (encs := fun x : Txt => #[.string (ba x)]) (fun _ => rfl)
    (VI xs (fun k => PS w g w.heap.size (w.heap.size + 1) w2.heap.size 54 59 26 v0 F A n c (l0 ++ be n 4 ++ (xs.take k).flatMap enc)))
    (VM xs (fun k => PS w g w.heap.size (w.heap.size + 1) w2.heap.size 54 59 26 v0 F A n c (l0 ++ be n 4 ++ (xs.take k).flatMap enc)))
    (VD xs (fun k => PS w g w.heap.size (w.heap.size + 1) w2.heap.size 54 59 26 v0 F A n c (l0 ++ be n 4 ++ (xs.take k).flatMap enc)))
    (fun pre => VI.stands hst) (fun pre x => VM.stands hst) (fun xs => VD.stands hst)
    (fun o o' => ⟨⟨xs, rfl⟩, hS0.kept (((KF.refl W0).alloc o).alloc o')⟩)
    (fun x => { tmps := #[.pointer (some ⟨g, 0, none⟩), .slice A n c, .func (.func F) #[] #[], .pointer (some ⟨w.heap.size, 0, none⟩), undef, .pointer (some ⟨w.heap.size + 1, 0, none⟩), .string (ba x), .pointer (some ⟨g, 0, none⟩), .slice A n c, .int .i64 n, .tuple #[], .slice A n c, .func (.func 79) #[] #[.pointer (some ⟨w2.heap.size, 0, none⟩)], .string (ba x), undef, undef, undef, undef], defers := [] }) ?assign ?body ?iter ?done
  case assign =>
    intro l x W K hK
    gi_wp2
    exact hK
  case iter =>
    intro l W BK hBK hY hI hbk
    exact iter_vals xs _ w2.heap.size A n c HN.out (by omega) (fun k X h => h.cv) (fun k X h => HR.out.keepB hB h.keep hBS) l BK hY W hI hbk
  case body =>
    rintro l pre x W ⟨⟨rest, hr⟩, hS⟩
    obtain ⟨v, hwv, hv⟩ := hS.wr
    have hx : x ∈ xs := by rw [hr]; simp
    have hc1 : W.cell? ⟨w.heap.size, 0, none⟩ = some (.pointer (some ⟨g, 0, none⟩)) := by simp [World.cell?, hS.cw]
    have hc2 : W.cell? ⟨w.heap.size + 1, 0, none⟩ = some (.func (.func F) #[] #[]) := by simp [World.cell?, hS.co]
    have C := Lib.hid (hF v _ x W hx (hl pre.length) hwv)
    have hT : (l0 ++ be n 4 ++ (xs.take pre.length).flatMap enc) ++ enc x = l0 ++ be n 4 ++ (xs.take (pre ++ [x]).length).flatMap enc := by
      rw [hr, List.take_left, List.length_append, List.append_assoc, show pre ++ x :: rest = (pre ++ [x]) ++ rest by simp, show pre.length + [x].length = (pre ++ [x]).length by simp, List.take_left, List.flatMap_append]
      simp
    have FIN := Lib.hid fun Y e (hp : Put W g v ((l0 ++ be n 4 ++ (xs.take pre.length).flatMap enc) ++ enc x) e Y) => (hS.put hwv hv hp ⟨by omega, by omega, by omega⟩ ⟨by decide, by decide, by decide⟩)
    rw [hT] at C FIN
    have HI := Lib.hid (show ∃ rest', xs = (pre ++ [x]) ++ rest' from ⟨rest, by rw [hr]; simp⟩)
    clear hr hT hx hwv hv hS
    obtain ⟨L', hL⟩ : ∃ L', l0 ++ be n 4 ++ (xs.take (pre ++ [x]).length).flatMap enc = L' := ⟨_, rfl⟩
    rw [hL] at C FIN
    have HL := Lib.hid hL
    clear hL
    gi_wp2_with fail
    refine ⟨trivial, ?_⟩
    refine (CallsIn.inRound l (callsIn_wide.2 C.out)).mono ?_
    intro e Y hp
    obtain rfl := hp.1
    obtain ⟨f1, f2⟩ := FIN.out Y _ hp
    have F1 := Lib.hid f1
    have F2 := Lib.hid f2
    clear C FIN hp f1 f2
    gi_wp2
    refine ⟨F2.out _, HI.out, ?_⟩
    have f1 := F1.out
    rw [← HL.out] at f1
    simpa only [List.append_assoc] using f1
  case done =>
    rintro D ys X hD ⟨rfl, hS⟩ hK
    have h2 := PS.stands (b := W0.heap.size) (by omega) (by omega) (by omega) (by omega) (by omega) X D _ (.deferred none) hD hK rfl hS
    have hE : l0 ++ be n 4 ++ (xs.take xs.length).flatMap enc = l0 ++ lst enc xs := by unfold lst; rw [List.take_length, ← HN.out, List.append_assoc]
    rw [hE] at h2
    have H2 := Lib.hid h2
    clear hS h2 hE
    gi_wp2
    refine ⟨by simp, .inl ⟨_, _, rfl, run_takeDeferred hK, ?_⟩⟩
    obtain ⟨v, hwv, hv⟩ := H2.out.wr
    exact ⟨_, results_none rfl _ _ _, rfl, v, hwv, H2.out.keep, hv⟩
end Go.Proofs.YtklpebfkgdklmaaDoor
