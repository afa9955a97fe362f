/-
  slices.Sorted of maps.Keys, at both kinds of keys; bytes.Clone.
-/
import Derived.Test.YtlpjbgplimlcaaaGreatDoorIter
import Derived.Test.YtlpjbgplimlcaaaGreatDoorMapV
import Derived.Test.YtlpjbgplimlcaaaGreatDoorTexts
import Derived.Lib.SliceRun
import Derived.RegionTactic
namespace Go.Proofs.YtlpjbgplimlcaaaGreatDoor
open Go.RowKit Go.Maps Go.Sort Go.Shelf

theorem strSorts (m : Nat) : AnyZ.SortsIn Tryz.prog Tryz.sorted36_ren Fence.wide m :=
  ⟨fun blk off cap ss W hH hblk hsz => callsIn_wide.2 (AnyM.slices_Sort_string Tryz.sort57 blk off cap ss W hH hblk hsz),
   fun p cap W => callsIn_wide.2 (AnyM.slices_Sort_string_none Tryz.sort57 p cap W)⟩
theorem intSorts (m : Nat) : AnyZI.SortsIn Tryz.prog Tryz.sorted28_ren Fence.wide m :=
  ⟨fun blk off cap ss W hH hblk hsz => callsIn_wide.2 (AnyM.slices_Sort_int Tryz.sort53 blk off cap ss W hH hblk hsz),
   fun p cap W => callsIn_wide.2 (AnyM.slices_Sort_int_none Tryz.sort53 p cap W)⟩

theorem strKeys_any (mb : Option Nat) (W : World) : Calls Tryz.prog 37 #[.map mb] W fun e w' =>
    e = .returned (.func (.func 58) #[] #[.pointer (some ⟨W.heap.size, 0, none⟩)]) ∧ w' = W.alloc (.cells #[.map mb] 68) :=
  callsIn_wide.1 (AnyZ.keys_in Tryz.keys37 Fence.wide 5 trivial rfl mb W)
theorem intKeys_any (mb : Option Nat) (W : World) : Calls Tryz.prog 29 #[.map mb] W fun e w' =>
    e = .returned (.func (.func 54) #[] #[.pointer (some ⟨W.heap.size, 0, none⟩)]) ∧ w' = W.alloc (.cells #[.map mb] 50) :=
  callsIn_wide.1 (AnyZI.keys_in Tryz.keys29 Fence.wide 5 trivial rfl mb W)

set_option maxHeartbeats 1000000 in
theorem strSorted_any (b nn : Nat) (D0 : VD) (w : World) (hown : w.ownsMap Tryz.prog 9 anyElem b nn D0) (hmax : Maps.size D0 ≤ 1000000) :
    Calls Tryz.prog 36 #[.func (.func 58) #[] #[.pointer (some ⟨w.heap.size, 0, none⟩)]] (w.alloc (.cells #[.map (some b)] 68)) fun e w' => ∃ (v : Value) (ss : List (List UInt8)), e = .returned v ∧ ss.Perm (strKeys D0) ∧
      w'.ownsRow 0 9 1 v ss.length ((ss.mergeSort (fun x y => decide (x ≤ y))).map encStr) ∧ (∀ k, v.ownBlock = some k → w.heap.size ≤ k) ∧ KF w w' := by
  have hbl := hown.lt
  have hseq : SeqGives Fence.wide 2 Tryz.prog 58 #[.pointer (some ⟨w.heap.size, 0, none⟩)] encStr (fun ss => ss.Perm (strKeys D0)) (Maps.size D0) (w.alloc (.cells #[.map (some b)] 68)) :=
    AnyZ.keys_gives (ρ := Tryz.keys37_ren) { Tryz.keys37 with } Fence.wide _ trivial rfl (by omega) w.heap.size b nn D0 _ (by simp) (by simp) (by
      obtain ⟨es, clock, hb, Ft, hs, hD⟩ := hown
      exact ⟨es, clock, (Below.heap_alloc _ _ b hbl).trans hb, Ft, hs, hD⟩)
  have C := AnyZ.sorted_in Tryz.sorted36 Fence.wide 5 trivial trivial trivial trivial rfl (by omega) (strSorts _) (enters_of Tryz.func57 (by kernel_rfl) rfl) 58 #[.pointer (some ⟨w.heap.size, 0, none⟩)] trivial (enters_of Tryz.func58 (by kernel_rfl) rfl) _ _ (by simp only [maxLen]; omega) (by omega) _ hseq
  refine (callsIn_wide.1 C).mono ?_
  rintro e w' ⟨v, ss, rfl, hS, hrow, hnil, hb⟩
  have hk : KF w w' := KF.trans ((KF.refl w).alloc _) (KF.of_below hb)
  refine ⟨v, ss, rfl, hS, ⟨hrow.1, ?_⟩, fun k hk => ?_, hk⟩
  · rcases hrow.2 with h | ⟨g, cap, cur, h1, h2, h3⟩
    · exact .inl h
    · exact .inr ⟨g, cap, cur, h1, Nat.zero_le _, h3⟩
  · have := (World.ownsRow.lt hrow k hk).1
    simp at this
    omega
set_option maxHeartbeats 1000000 in
theorem intSorted_any (b nn : Nat) (D0 : VD) (w : World) (hown : w.ownsMap Tryz.prog 3 anyElem b nn D0) (hmax : Maps.size D0 ≤ 1000000) :
    Calls Tryz.prog 28 #[.func (.func 54) #[] #[.pointer (some ⟨w.heap.size, 0, none⟩)]] (w.alloc (.cells #[.map (some b)] 50)) fun e w' => ∃ (v : Value) (ss : List Int), e = .returned v ∧ ss.Perm (intKeys D0) ∧
      w'.ownsRow 0 3 1 v ss.length ((ss.mergeSort (fun x y => decide (x ≤ y))).map encZ) ∧ (∀ k, v.ownBlock = some k → w.heap.size ≤ k) ∧ KF w w' := by
  have hbl := hown.lt
  have hseq : SeqGives Fence.wide 2 Tryz.prog 54 #[.pointer (some ⟨w.heap.size, 0, none⟩)] encZ (fun ss => ss.Perm (intKeys D0)) (Maps.size D0) (w.alloc (.cells #[.map (some b)] 50)) :=
    AnyZI.keys_gives (ρ := Tryz.keys29_ren) { Tryz.keys29 with } Fence.wide _ trivial rfl (by omega) w.heap.size b nn D0 _ (by simp) (by simp) (by
      obtain ⟨es, clock, hb, Ft, hs, hD⟩ := hown
      exact ⟨es, clock, (Below.heap_alloc _ _ b hbl).trans hb, Ft, hs, hD⟩)
  have C := AnyZI.sorted_in Tryz.sorted28 Fence.wide 5 trivial trivial trivial trivial rfl (by omega) (intSorts _) (enters_of Tryz.func53 (by kernel_rfl) rfl) 54 #[.pointer (some ⟨w.heap.size, 0, none⟩)] trivial (enters_of Tryz.func54 (by kernel_rfl) rfl) _ _ (by simp only [maxLen]; omega) (by omega) _ hseq
  refine (callsIn_wide.1 C).mono ?_
  rintro e w' ⟨v, ss, rfl, hS, hrow, hnil, hb⟩
  have hk : KF w w' := KF.trans ((KF.refl w).alloc _) (KF.of_below hb)
  refine ⟨v, ss, rfl, hS, ⟨hrow.1, ?_⟩, fun k hk => ?_, hk⟩
  · rcases hrow.2 with h | ⟨g, cap, cur, h1, h2, h3⟩
    · exact .inl h
    · exact .inr ⟨g, cap, cur, h1, Nat.zero_le _, h3⟩
  · have := (World.ownsRow.lt hrow k hk).1
    simp at this
    omega
end Go.Proofs.YtlpjbgplimlcaaaGreatDoor
