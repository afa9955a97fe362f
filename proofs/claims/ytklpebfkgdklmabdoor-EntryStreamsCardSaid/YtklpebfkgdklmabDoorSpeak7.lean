/-
  The law's speaks (layer 7).
-/
import Derived.Test.YtklpebfkgdklmabDoorWalk
import Derived.Test.YtklpebfkgdklmabDoorEntMath2
namespace Go.Proofs.YtklpebfkgdklmabDoor
open Go.RowKit Go.Shelf
attribute [local go_sem] Oper.semAt_some

theorem walk_any (z : Int) (fn : Fn) (cs : Array Value) (w : World) :
    Calls Tryd.prog 12 #[.int .i64 z, .func fn #[] cs] w fun e w' => e = .returned (.func (.func 26) #[] #[.pointer (some ⟨w.heap.size, 0, none⟩), .pointer (some ⟨w.heap.size + 1, 0, none⟩)]) ∧
      (w.alloc (.cells #[.int .i64 z] 3)).alloc (.cells #[.func fn #[] cs] 41) = w' := by
  go_enter Tryd.func12, Tryd.ntmps12
  go_wp2
  go_ret
  exact ⟨rfl, rfl⟩
def eZero : TLog := ⟨0, 0, 0, 0, 0, 0, []⟩
def eBack : TLog := ⟨0, 0, 0, 0, 0, -1, []⟩
set_option maxHeartbeats 400000 in
theorem read1_any (z : Int) (w : World) : Calls Tryd.prog 13 #[.int .i64 z] w (Reads (fun _ => some eZero) z w) := by
  have FIN : Hid (∀ X : World, KF w X → Reads (fun _ => some eZero) z w (.returned (.tuple #[.agg (ecells eZero none 0 0), .bool true])) X) := Lib.hid fun X k => ⟨k, .inl ⟨eZero, rfl, rfl⟩⟩
  have P : Lg (w.alloc (.cells (ecells eZero none 0 0) 26)) w.heap.size (.int .i64 0) (.int .i64 0) (.int .i64 0) (.int .i64 0) (.int .i64 0) (.int .i64 (0)) (.slice none 0 0) := ⟨heap_alloc_new w _⟩
  have HP := Lib.hid P.cells
  clear P
  generalize Reads (fun _ => some eZero) z w = Q at *
  go_enter Tryd.func13, Tryd.ntmps13
  go_wp2
  obtain ⟨d0, d1, d2, d3, d4, d5, d6⟩ := HP.out
  refine bodyPost_ret (v := .tuple #[.agg (ecells eZero none 0 0), .bool true]) (by simp only [ecells, eZero] at d0 d1 d2 d3 d4 d5 d6 ⊢; simp [results, Tryd.results13, go_sem, d0, d1, d2, d3, d4, d5, d6]) rfl ?_
  exact FIN.out _ ((KF.refl w).alloc _)
set_option maxHeartbeats 400000 in
theorem read2_any (z : Int) (w : World) : Calls Tryd.prog 14 #[.int .i64 z] w (Reads (fun _ => some eBack) z w) := by
  have FIN : Hid (∀ X : World, KF w X → Reads (fun _ => some eBack) z w (.returned (.tuple #[.agg (ecells eBack none 0 0), .bool true])) X) := Lib.hid fun X k => ⟨k, .inl ⟨eBack, rfl, rfl⟩⟩
  have P : Lg (w.alloc (.cells (ecells eBack none 0 0) 26)) w.heap.size (.int .i64 0) (.int .i64 0) (.int .i64 0) (.int .i64 0) (.int .i64 0) (.int .i64 (-1)) (.slice none 0 0) := ⟨heap_alloc_new w _⟩
  have HP := Lib.hid P.cells
  clear P
  generalize Reads (fun _ => some eBack) z w = Q at *
  go_enter Tryd.func14, Tryd.ntmps14
  go_wp2
  obtain ⟨d0, d1, d2, d3, d4, d5, d6⟩ := HP.out
  refine bodyPost_ret (v := .tuple #[.agg (ecells eBack none 0 0), .bool true]) (by simp only [ecells, eBack] at d0 d1 d2 d3 d4 d5 d6 ⊢; simp [results, Tryd.results14, go_sem, d0, d1, d2, d3, d4, d5, d6]) rfl ?_
  exact FIN.out _ ((KF.refl w).alloc _)
/-- The state of a loop that counts: the count in block b, the iterator's two captured variables, the law's own entry in block q. -/
structure SC7 (w : World) (n0 : Int) (nb B q : Nat) (at_ : Int) (rf : Nat) (A : Option Addr) (c : Nat) (k : Nat) (X : World) : Prop where
  n : X.heap[nb]? = some (.cells #[.int .i64 (n0 + k)] 3 (0, 0))
  a : X.heap[B]? = some (.cells #[.int .i64 at_] 3 (0, 0))
  r : X.heap[B + 1]? = some (.cells #[.func (.func rf) #[] #[]] 41 (0, 0))
  x : Lg X q (.int .i64 1) (.int .i64 0) (.int .i64 0) (.int .i64 0) (.int .i64 0) (.int .i64 (-1)) (.slice A 1 c)
  keep : KF w X
theorem SC7.kept {w : World} {n0 : Int} {nb B q : Nat} {at_ : Int} {rf : Nat} {A : Option Addr} {c k : Nat} {X Y : World} (h : SC7 w n0 nb B q at_ rf A c k X) (hk : KF X Y) : SC7 w n0 nb B q at_ rf A c k Y :=
  ⟨(hk.block _ (lt_of_block h.n) (fun h => h)).trans h.n, (hk.block _ (lt_of_block h.a) (fun h => h)).trans h.a, (hk.block _ (lt_of_block h.r) (fun h => h)).trans h.r, h.x.kept hk (fun h => h), KF.trans h.keep hk⟩
theorem SC7.stands {w : World} {n0 : Int} {nb B q : Nat} {at_ : Int} {rf : Nat} {A : Option Addr} {c : Nat} {b : Nat} (h1 : nb < b) (h2 : B + 1 < b) (h3 : q < b) (h4 : w.heap.size ≤ b) (k : Nat) : Stands b (SC7 w n0 nb B q at_ rf A c k) := fun X i o o' hi ho hc h => by
  have hk := keep_put X i o'
  exact ⟨(hk.block _ (lt_of_block h.n) (by omega)).trans h.n, (hk.block _ (lt_of_block h.a) (by omega)).trans h.a, (hk.block _ (lt_of_block h.r) (by omega)).trans h.r, h.x.kept hk (by omega), Keep.trans h.keep hk (fun j hj e => by omega)⟩
def e7 : TLog := ⟨1, 0, 0, 0, 0, -1, [7]⟩
theorem e7_right : rightB e7 = true := by decide
set_option maxRecDepth 100000 in
set_option maxHeartbeats 4000000 in
theorem speaks7 (w : World) (ht : Tab w) : Calls Tryd.prog 5 #[] w fun e w' => e = .returned (.bool true) ∧ KF w w' := by
  have k1 : KF w (w.alloc (.cells #[.int .u8 7] 5)) := (KF.refl w).alloc _
  have r1 : Rd (w.alloc (.cells #[.int .u8 7] 5)) (w.heap.size + 1) (some ⟨w.heap.size, 0, none⟩) [7] := Rd.lit w 5 (0, 0) [7] #[.int .u8 7] rfl
  have CE : Hid (Calls Tryd.prog 7 #[.agg #[.int .i64 1, .int .i64 0, .int .i64 0, .int .i64 0, .int .i64 0, .int .i64 (-1), .slice (some ⟨w.heap.size, 0, none⟩) 1 1]] (w.alloc (.cells #[.int .u8 7] 5)) fun e w' => ∃ A c, e = .returned (.tuple #[.slice A 31 c, .int .i64 0]) ∧ Own 5 w' (.slice A 31 c) (wrapB (encE e7)) ∧ KF w w') := Lib.hid (by
    refine (eencode_any e7 (some ⟨w.heap.size, 0, none⟩) 1 1 _ (ht.kept k1 (fun h => h)) (by decide) rfl (r1.more (by simp))).mono ?_
    rintro e w' ⟨k, ⟨_, A, c, rfl, ho, _⟩ | ⟨hr, _⟩⟩
    · exact ⟨A, c, rfl, ho, KF.trans k1 k⟩
    · rw [e7_right] at hr; cases hr)
  have CD : Hid (∀ (A : Option Addr) (c : Nat) (W : World), Own 5 W (.slice A 31 c) (wrapB (encE e7)) → KF w W → Calls Tryd.prog 10 #[.slice A 31 c] W fun e Y => ∃ A' c', e = .returned (.tuple #[.agg #[.int .i64 1, .int .i64 0, .int .i64 0, .int .i64 0, .int .i64 0, .int .i64 (-1), .slice A' 1 c'], .int .i64 0]) ∧ KF w Y) := Lib.hid (by
    intro A c W ho k
    obtain ⟨A', c', e, h1, h2, h3, _⟩ := ho.shape
    have hn := ho.len
    injection e with e1 e2 e3
    subst e1 e3
    refine (edecode_any A _ 31 c W hn (by rw [hn]; exact h1) h2 (by rw [← hn]; decide) (ht.kept k (fun h => h)) h3).mono ?_
    rintro e Y ⟨k', ⟨x, A3, c3, hx, rfl, _⟩ | ⟨hx, _⟩⟩
    · rw [dec_encE e7_right] at hx
      injection hx with hx
      subst hx
      exact ⟨A3, c3, rfl, KF.trans k k'⟩
    · rw [dec_encE e7_right] at hx
      cases hx)
  clear k1 r1
  generalize wrapB (encE e7) = L at *
  refine (callsIn_wide (n := 3)).1 ?_
  refine callsIn_of_wp_marks Tryd.func5 rfl trivial ?_ rfl
  simp only [Tryd.ntmps5, List.size_toArray, List.length_cons, List.length_nil, Nat.reduceAdd, Nat.reduceSub, Array.replicate_succ, Array.replicate_zero, List.push_toArray, List.append_toArray, List.nil_append, List.cons_append]
  gi_wp2_with (first
    | (refine ⟨trivial, ?_⟩; gi_at_call 7; refine (callsIn_wide.2 CE.out).mono ?_; rintro e w1 ⟨A1, c1, rfl, o1, k1⟩)
    | (refine ⟨trivial, ?_⟩; gi_at_call 10; refine (callsIn_wide.2 (CD.out _ _ _ o1 k1)).mono ?_; rintro e w2 ⟨A2, c2, rfl, k2⟩)
    | (refine ⟨trivial, ?_⟩; gi_at_call 12; refine (callsIn_wide.2 (walk_any _ _ _ _)).mono ?_; rintro e w3 ⟨rfl, rfl⟩))
  obtain ⟨W0, hW0⟩ : ∃ W0, ((((w2.alloc (.cells #[.int .i64 1, .int .i64 0, .int .i64 0, .int .i64 0, .int .i64 0, .int .i64 (-1), .slice A2 1 c2] 26)).alloc (.cells #[.int .i64 0] 3)).alloc (.cells #[.int .i64 (-1)] 3)).alloc (.cells #[.func (.func 13) #[] #[]] 41)) = W0 := ⟨_, rfl⟩
  have hz0 : W0.heap.size = w2.heap.size + 4 := by rw [← hW0]; simp
  have S0 : SC7 w 0 (w2.heap.size + 1) (w2.heap.size + 1 + 1) w2.heap.size (-1) 13 A2 c2 0 W0 := by
    rw [← hW0]
    refine ⟨?_, ?_, ?_, ⟨?_⟩, ((((k2.alloc _).alloc _).alloc _).alloc _)⟩
    · rw [Below.heap_alloc _ _ _ (by simp), Below.heap_alloc _ _ _ (by simp)]
      have := World.alloc_heap_new (w2.alloc (.cells #[.int .i64 1, .int .i64 0, .int .i64 0, .int .i64 0, .int .i64 0, .int .i64 (-1), .slice A2 1 c2] 26)) (.cells #[.int .i64 0] 3)
      rwa [World.size_alloc] at this
    · rw [Below.heap_alloc _ _ _ (by simp)]
      have := World.alloc_heap_new ((w2.alloc (.cells #[.int .i64 1, .int .i64 0, .int .i64 0, .int .i64 0, .int .i64 0, .int .i64 (-1), .slice A2 1 c2] 26)).alloc (.cells #[.int .i64 0] 3)) (.cells #[.int .i64 (-1)] 3)
      rwa [World.size_alloc, World.size_alloc] at this
    · have := World.alloc_heap_new (((w2.alloc (.cells #[.int .i64 1, .int .i64 0, .int .i64 0, .int .i64 0, .int .i64 0, .int .i64 (-1), .slice A2 1 c2] 26)).alloc (.cells #[.int .i64 0] 3)).alloc (.cells #[.int .i64 (-1)] 3)) (.cells #[.func (.func 13) #[] #[]] 41)
      rwa [World.size_alloc, World.size_alloc, World.size_alloc] at this
    · rw [Below.heap_alloc _ _ _ (by simp; omega), Below.heap_alloc _ _ _ (by simp; omega), Below.heap_alloc _ _ _ (by simp)]
      exact World.alloc_heap_new w2 _
  have hs2 := k2.size
  have hst : ∀ k, Stands W0.heap.size (SC7 w 0 (w2.heap.size + 1) (w2.heap.size + 1 + 1) w2.heap.size (-1) 13 A2 c2 k) := fun k => SC7.stands (by omega) (by omega) (by omega) (by omega) k
  rw [hW0]
  clear hW0 CE CD o1 k1
  have hnil : walkL (fun _ => some eZero) (-1) = [] := walkL_neg (by decide)
  refine range_law2 rfl (by omega) (gf := 26) (lb := #[.pointer (some ⟨w2.heap.size + 1 + 1, 0, none⟩), .pointer (some ⟨w2.heap.size + 1 + 1 + 1, 0, none⟩)]) rfl trivial (enters_of Tryd.func26 (by kernel_rfl) rfl)
    (encs := fun p : Stp => #[.int .i64 p.1, .agg (ecells p.2.1 none 0 0)]) (fun _ => rfl)
    (WI (fun _ => some eZero) (-1) W0.heap.size (SC7 w 0 (w2.heap.size + 1) (w2.heap.size + 1 + 1) w2.heap.size (-1) 13 A2 c2))
    (WM (fun _ => some eZero) (-1) W0.heap.size (SC7 w 0 (w2.heap.size + 1) (w2.heap.size + 1 + 1) w2.heap.size (-1) 13 A2 c2))
    (WD (fun _ => some eZero) (-1) (SC7 w 0 (w2.heap.size + 1) (w2.heap.size + 1 + 1) w2.heap.size (-1) 13 A2 c2))
    (fun pre => WI.stands hst) (fun xs => WD.stands hst)
    (fun o o' => ⟨⟨_, rfl⟩, S0.kept (((KF.refl W0).alloc o).alloc o'), fun p hp => by simp at hp, by simp; omega⟩)
    (fun _ _ _ _ => False) (fun _ _ _ X i o o' _ _ _ h => h) ?assign ?body ?iter ?done
  case assign =>
    intro l pre p W K hM hK
    obtain ⟨rest, h⟩ := hM.told
    rw [hnil] at h
    simp at h
  case body => exact fun l pre p a' W h => h.elim
  case iter =>
    intro l W BK hBK hY hI hB
    exact iter_walk (fun _ => some eZero) (-1) W0.heap.size _ (w2.heap.size + 1 + 1) 13 #[] (enters_of Tryd.func13 (by kernel_rfl) rfl) (fun k X Y h hk => h.kept hk) (fun k X h => h.a) (fun k X h => ⟨_, h.r⟩) (fun k X z _ h => read1_any z X) l BK hBK hY W hI hB
  case done =>
    rintro D xs X hD ⟨hT, hS⟩ hK
    rw [hnil] at hT
    obtain rfl := told_nil hT.symm
    gi_wp2_with (refine ⟨trivial, ?_⟩; gi_at_call 12; refine (callsIn_wide.2 (walk_any _ _ _ _)).mono ?_; rintro e w3 ⟨rfl, rfl⟩)
    have hDl : D < X.heap.size := (Array.getElem?_eq_some_iff.1 hK).1
    obtain ⟨V, hV⟩ : ∃ V, ((X.alloc (.cells #[.int .i64 3] 3)).alloc (.cells #[.func (.func 14) #[] #[]] 41)) = V := ⟨_, rfl⟩
    have hzV : V.heap.size = X.heap.size + 2 := by rw [← hV]; simp
    have kV : KF X V := by rw [← hV]; exact ((KF.refl X).alloc _).alloc _
    have hl1 := lt_of_block hS.n
    have hl2 := hS.x.lt
    have S1 : SC7 w 0 (w2.heap.size + 1) X.heap.size w2.heap.size 3 14 A2 c2 0 V := by
      refine ⟨(kV.block _ (lt_of_block hS.n) (fun h => h)).trans hS.n, ?_, ?_, hS.x.kept kV (fun h => h), KF.trans hS.keep kV⟩
      · rw [← hV, Below.heap_alloc _ _ _ (by simp)]
        exact World.alloc_heap_new X _
      · rw [← hV]
        have := World.alloc_heap_new (X.alloc (.cells #[.int .i64 3] 3)) (.cells #[.func (.func 14) #[] #[]] 41)
        rwa [World.size_alloc] at this
    have hK1 : V.heap[D]? = some (.deferred (some [])) := (kV.block _ hDl (fun h => h)).trans hK
    have hsX := hS.keep.size
    have hst2 : ∀ k, Stands V.heap.size ((fun k Y => SC7 w 0 (w2.heap.size + 1) X.heap.size w2.heap.size 3 14 A2 c2 k Y ∧ Y.heap[D]? = some (.deferred (some []))) k) := fun k Y i o o' hi ho hc h =>
      ⟨SC7.stands (b := V.heap.size) (by omega) (by omega) (by omega) (by omega) k Y i o o' hi ho hc h.1, (World.putObj_heap_other (by omega)).trans h.2⟩
    rw [hV]
    clear hV S0 hst
    have hone : walkL (fun _ => some eBack) 3 = [(3, eBack)] := by
      rw [walkL_some (by decide) rfl, if_neg (by decide), walkL_neg (by decide)]
    refine range_law2 rfl (by omega) (gf := 26) (lb := #[.pointer (some ⟨X.heap.size, 0, none⟩), .pointer (some ⟨X.heap.size + 1, 0, none⟩)]) rfl trivial (enters_of Tryd.func26 (by kernel_rfl) rfl)
      (encs := fun p : Stp => #[.int .i64 p.1, .agg (ecells p.2.1 none 0 0)]) (fun _ => rfl)
      (WI (fun _ => some eBack) 3 V.heap.size (fun k Y => SC7 w 0 (w2.heap.size + 1) X.heap.size w2.heap.size 3 14 A2 c2 k Y ∧ Y.heap[D]? = some (.deferred (some []))))
      (WM (fun _ => some eBack) 3 V.heap.size (fun k Y => SC7 w 0 (w2.heap.size + 1) X.heap.size w2.heap.size 3 14 A2 c2 k Y ∧ Y.heap[D]? = some (.deferred (some []))))
      (WD (fun _ => some eBack) 3 (fun k Y => SC7 w 0 (w2.heap.size + 1) X.heap.size w2.heap.size 3 14 A2 c2 k Y ∧ Y.heap[D]? = some (.deferred (some []))))
      (fun pre => WI.stands hst2) (fun xs => WD.stands hst2)
      (fun o o' => ⟨⟨_, rfl⟩, ⟨S1.kept (((KF.refl V).alloc o).alloc o'), ((((KF.refl V).alloc o).alloc o').block D (by omega) (fun h => h)).trans hK1⟩, fun p hp => by simp at hp, by simp; omega⟩)
      (fun pre p a' Y => a' = { tmps := #[.bool false, .slice A1 31 c1, .int .i64 0, .pointer (some ⟨w2.heap.size, 0, none⟩), .int .i64 0, .pointer (some ⟨w2.heap.size + 1, 0, none⟩), (.tuple #[.slice A1 31 c1, .int .i64 0]), .slice (some ⟨w.heap.size, 0, none⟩) 1 1, (.agg #[.int .i64 1, .int .i64 0, .int .i64 0, .int .i64 0, .int .i64 0, .int .i64 (-1), .slice (some ⟨w.heap.size, 0, none⟩) 1 1]), (.tuple #[.slice A1 31 c1, .int .i64 0]), .slice A1 31 c1, .int .i64 0, (.tuple #[(.agg #[.int .i64 1, .int .i64 0, .int .i64 0, .int .i64 0, .int .i64 0, .int .i64 (-1), .slice A2 1 c2]), .int .i64 0]), .slice A1 31 c1, (.tuple #[(.agg #[.int .i64 1, .int .i64 0, .int .i64 0, .int .i64 0, .int .i64 0, .int .i64 (-1), .slice A2 1 c2]), .int .i64 0]), (.agg #[.int .i64 1, .int .i64 0, .int .i64 0, .int .i64 0, .int .i64 0, .int .i64 (-1), .slice A2 1 c2]), .int .i64 0, .pointer (some ⟨w2.heap.size, 6, none⟩), .slice A2 1 c2, .int .i64 1, .bool false, .func (.func 26) #[] #[.pointer (some ⟨w2.heap.size + 1 + 1, 0, none⟩), .pointer (some ⟨w2.heap.size + 1 + 1 + 1, 0, none⟩)], undef, undef, undef, undef, .func (.func 26) #[] #[.pointer (some ⟨X.heap.size, 0, none⟩), .pointer (some ⟨X.heap.size + 1, 0, none⟩)], .int .i64 p.1, .agg (ecells p.2.1 none 0 0), undef, undef, undef, undef, undef, undef, undef, undef, undef, undef, undef, undef, undef, undef, undef, undef, undef, undef], defers := [] } ∧ WM (fun _ => some eBack) 3 V.heap.size (fun k Y => SC7 w 0 (w2.heap.size + 1) X.heap.size w2.heap.size 3 14 A2 c2 k Y ∧ Y.heap[D]? = some (.deferred (some []))) pre p Y)
      (fun pre p a' Y i o o' hi ho hc h => ⟨h.1, WM.stands hst2 Y i o o' hi ho hc h.2⟩) ?assign2 ?body2 ?iter2 ?done2
    case assign2 =>
      intro l pre p Y K hM hK
      gi_wp2
      exact hK _ _ ⟨rfl, hM⟩ (KeepsFrom.refl _ _)
    case iter2 =>
      intro l Y BK hBK hY hI hB
      exact iter_walk (fun _ => some eBack) 3 V.heap.size _ X.heap.size 14 #[] (enters_of Tryd.func14 (by kernel_rfl) rfl) (fun k Y Z h hk => ⟨h.1.kept hk, (hk.block D (Array.getElem?_eq_some_iff.1 h.2).1 (fun h => h)).trans h.2⟩) (fun k Y h => h.1.a) (fun k Y h => ⟨_, h.1.r⟩) (fun k Y z _ h => read2_any z Y) l BK hBK hY Y hI hB
    case body2 =>
      rintro l pre p a' Y ⟨rfl, hM⟩
      obtain ⟨rest, hT⟩ := hM.told
      rw [hone] at hT
      have hlen := congrArg List.length hT
      simp only [List.length_append, told_length, List.length_cons, List.length_nil] at hlen
      obtain rfl : pre = [] := List.eq_nil_of_length_eq_zero (by omega)
      obtain rfl : rest = [] := List.eq_nil_of_length_eq_zero (by omega)
      obtain ⟨hS1, hKY⟩ := hM.st
      have hnY := hS1.n
      simp only [List.length_nil, Int.ofNat_zero, Int.add_zero] at hnY
      have hc : Y.cell? ⟨w2.heap.size + 1, 0, none⟩ = some (.int .i64 0) := cell_of_one hnY
      have hf : Y.frozen? ⟨w2.heap.size + 1, 0, none⟩ = false := free_of_one hnY
      have hl3 := hM.own.1
      have kS : Keep (fun i => i = w2.heap.size + 1) Y (Y.setCell ⟨w2.heap.size + 1, 0, none⟩ (.int .i64 1)) := Keep.ofSet (S := fun i => i = w2.heap.size + 1) (p := ⟨w2.heap.size + 1, 0, none⟩) rfl _
      have FIN : Hid (KeepsFrom V.heap.size Y (Y.setCell ⟨w2.heap.size + 1, 0, none⟩ (.int .i64 1)) ∧ WI (fun _ => some eBack) 3 V.heap.size (fun k Y => SC7 w 0 (w2.heap.size + 1) X.heap.size w2.heap.size 3 14 A2 c2 k Y ∧ Y.heap[D]? = some (.deferred (some []))) ([] ++ [p]) (Y.setCell ⟨w2.heap.size + 1, 0, none⟩ (.int .i64 1))) := Lib.hid (by
        refine ⟨keepsFrom_of kS (fun i hi => by subst hi; exact ⟨_, _, _, hnY⟩) _, ⟨[], ?_⟩, ⟨⟨?_, ?_, ?_, ?_, ?_⟩, ?_⟩, ?_, ?_⟩
        · rw [hone, hT]; rfl
        · exact one_setCell hnY
        · exact (kS.block _ (lt_of_block hS1.a) (by omega)).trans hS1.a
        · exact (kS.block _ (lt_of_block hS1.r) (by omega)).trans hS1.r
        · exact hS1.x.kept kS (by omega)
        · exact Keep.trans hS1.keep kS (fun i hi e => by omega)
        · exact (kS.block D (Array.getElem?_eq_some_iff.1 hKY).1 (by omega)).trans hKY
        · intro p' hp'
          simp at hp'
          subst hp'
          exact ⟨hl3, hM.own.2.kept kS (by omega)⟩
        · exact Nat.le_trans hM.size kS.size)
      clear hM hS1 hKY hT hlen hnY hl3 kS hzV
      gi_wp2
      exact ⟨FIN.out.1, FIN.out.2⟩
    case done2 =>
      rintro D2 xs Y hD2 ⟨hT2, hS2, hKD⟩ hK2
      rw [hone] at hT2
      have hlen := congrArg List.length hT2
      simp only [told_length, List.length_cons, List.length_nil] at hlen
      have hnY := hS2.n
      rw [← hlen] at hnY
      have hc : Y.cell? ⟨w2.heap.size + 1, 0, none⟩ = some (.int .i64 1) := cell_of_one hnY
      obtain ⟨d0, d1, d2, d3, d4, d5, d6⟩ := hS2.x.cells
      have hkY := Lib.hid hS2.keep
      clear hS2 hnY hT2 hlen
      gi_wp2
      have hne : D ≠ D2 := by omega
      have hKD' : (Y.putObj D2 (.deferred none)).heap[D]? = some (.deferred (some [])) := (World.putObj_heap_other hne).trans hKD
      refine ⟨by simp, .inl ⟨_, _, rfl, run_takeDeferred hK2, ⟨by simp, .inl ⟨_, _, rfl, run_takeDeferred hKD', ?_⟩⟩⟩⟩
      refine ⟨_, results_tmp rfl _ _ _, rfl, ?_⟩
      have hsY := hkY.out.size
      exact Keep.trans (Keep.trans hkY.out (keep_put Y D2 _) (fun i hi e => by omega)) (keep_put _ D _) (fun i hi e => by omega)
end Go.Proofs.YtklpebfkgdklmabDoor
