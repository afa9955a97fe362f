/-
  WALKS: summed.Put, by whatever the function that it is handed puts.
-/
import Derived.Test.YtklpebfkgdklmabDoorWn
namespace Go.Proofs.YtklpebfkgdklmabDoor
open Go.RowKit

set_option maxRecDepth 100000 in
set_option maxHeartbeats 400000 in
theorem sput_any (F : Nat) (caps : Array Value) (l : List UInt8) (w : World) (eF : ∀ args W, (callFunc F args).run Tryd.prog W = .ok (.enter F args) W) (hl : l.length ≤ 35184372088000) (ht : Tab w)
    (hF : ∀ w2 g, KF w w2 → g = w.heap.size → g < w2.heap.size → Wn w2 w2 g [] → Calls Tryd.prog F (#[.pointer (some ⟨g, 0, none⟩)] ++ caps) w2 fun e w' => e = .returned (.tuple #[]) ∧ Wn w2 w' g l) :
    Calls Tryd.prog 23 #[.func (.func F) #[] caps] w (Fresh w (l.length + 4) (wrapB l)) := by
  obtain ⟨w2, hw2⟩ : ∃ w2, w.alloc (.cells #[.slice none 0 0] 64) = w2 := ⟨_, rfl⟩
  obtain ⟨g1, hg1⟩ : ∃ g1, w.heap.size = g1 := ⟨_, rfl⟩
  have s2 : w2.heap.size = w.heap.size + 1 := by rw [← hw2]; simp
  have b2 : w2.heap[g1]? = some (.cells #[.slice none 0 0] 64) := by rw [← hw2, ← hg1]; exact heap_alloc_new w _
  have k02 : KF w w2 := by rw [← hw2]; exact (KF.refl _).alloc _
  have W2 : Wn w2 w2 g1 [] := ⟨.slice none 0 0, ⟨b2, Own.nil _ _⟩, Keep.refl _ _, NB.nil _⟩
  have C0 := Lib.hid (hF w2 g1 k02 hg1.symm (by omega) W2)
  have HW2 := Lib.hid hw2
  have HG1 := Lib.hid hg1
  have HT2 := Lib.hid (ht.kept k02 (fun h => h))
  have hwl := Lib.hid ht.lt
  clear hF b2 hw2 s2 hg1 ht
  generalize hA : (#[.pointer (some ⟨g1, 0, none⟩)] ++ caps : Array Value) = args at *
  go_enter Tryd.func23, Tryd.ntmps23
  go_upto_region 2 with fail
  rw [HW2.out, HG1.out]
  go_wp2_with fail
  refine C0.out.mono ?_
  rintro e w8 ⟨rfl, v8, hw8, hk8, hn8⟩
  generalize hll : l.length = ll at *
  have HLL := Lib.hid hll
  clear hll
  have C6 := Lib.hid (out_any g1 v8 l w8 hw8 (by rw [HLL.out]; omega))
  rw [HLL.out] at C6
  have HT8 := Lib.hid (HT2.out.kept hk8 (fun h => by have := hwl.out; have := HG1.out; have h2 : 0 = g1 := h; omega))
  have hkw : KF w w8 := Keep.trans k02 hk8 (fun i hi h => by have := HG1.out; have h2 : i = g1 := h; omega)
  clear hk8 W2 HT2 HG1 HW2 C0
  go_wp2_with fail
  refine C6.out.mono ?_
  rintro e w9 ⟨A9, c9, rfl, o9, n9, k9⟩
  have C7 := Lib.hid (wrap_any A9 l c9 w9 (by rw [HLL.out]; omega) (HT8.out.kept k9 (fun h => h)) w9.heap.size o9.rd (Nat.le_refl _))
  rw [HLL.out] at C7
  go_wp2_with fail
  refine C7.out.mono ?_
  rintro e w10 ⟨A10, c10, rfl, o10, n10, k10⟩
  have hk9 := KF.trans hkw k9
  go_wp2
  go_ret
  exact ⟨A10, c10, rfl, o10, n10.older hk9.size, KF.trans hk9 k10⟩
end Go.Proofs.YtklpebfkgdklmabDoor
