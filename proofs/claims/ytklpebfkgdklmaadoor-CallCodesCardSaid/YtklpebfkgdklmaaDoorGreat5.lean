/-
  The law's great (layer 5): what it lets through is small.
-/
import Derived.Test.YtklpebfkgdklmaaDoorCallLaw
namespace Go.Proofs.YtklpebfkgdklmaaDoor
open Go.RowKit

/-- What is looked at. -/
structure Small5 (x : TCall) (d d1 n3 : Nat) (names : List Txt) : Prop where
  path : x.path.length ≤ 400
  other : x.other.length ≤ 400
  data : d ≤ 5000
  adata : d1 ≤ 5000
  count : names.length ≤ 70
  bytes : n3 ≤ 12000
  each : ∀ p ∈ names, p.length ≤ 400
/-- What great answers. -/
def Greats5 (x : TCall) (d d1 n3 : Nat) (names : List Txt) (w : World) (e : Ending) (w' : World) : Prop := ∃ v, e = .returned (.bool v) ∧ KF w w' ∧ (v = false → Hid (Small5 x d d1 n3 names))
set_option maxRecDepth 100000 in
set_option maxHeartbeats 2000000 in
theorem great5 (x : TCall) (A A1 A2 A3 : Option Addr) (d c d1 c1 n2 c2 n3 c3 : Nat) (ev kv sv lv : Int) (names : List Txt) (w : World) (hn : n2 = names.length) (hs : Strs w w.heap.size A2 (names.map ba)) :
    Calls Tryd.prog 8 #[cval x A d c, .agg #[.int .i64 ev, .int .i64 kv, .int .i64 sv, .int .i64 lv, .slice A1 d1 c1, .slice A2 n2 c2], .slice A3 n3 c3] w (Greats5 x d d1 n3 names w) := by
  obtain ⟨w1, hw1⟩ : ∃ w1, w.alloc (.cells #[.int .i64 x.kind, .string (ba x.path), .string (ba x.other), .int .i64 x.off, .int .i64 x.n, .slice A d c] 24) = w1 := ⟨_, rfl⟩
  obtain ⟨w2, hw2⟩ : ∃ w2, w1.alloc (.cells #[.int .i64 ev, .int .i64 kv, .int .i64 sv, .int .i64 lv, .slice A1 d1 c1, .slice A2 n2 c2] 28) = w2 := ⟨_, rfl⟩
  obtain ⟨g0, hg0⟩ : ∃ g0, w.heap.size = g0 := ⟨_, rfl⟩
  obtain ⟨g1, hg1⟩ : ∃ g1, w1.heap.size = g1 := ⟨_, rfl⟩
  have k01 : KF w w1 := by rw [← hw1]; exact (KF.refl _).alloc _
  have k12 : KF w1 w2 := by rw [← hw2]; exact (KF.refl _).alloc _
  have b1 : w1.heap[g0]? = some (.cells #[.int .i64 x.kind, .string (ba x.path), .string (ba x.other), .int .i64 x.off, .int .i64 x.n, .slice A d c] 24) := by rw [← hw1, ← hg0]; exact heap_alloc_new w _
  have b2 : w2.heap[g1]? = some (.cells #[.int .i64 ev, .int .i64 kv, .int .i64 sv, .int .i64 lv, .slice A1 d1 c1, .slice A2 n2 c2] 28) := by rw [← hw2, ← hg1]; exact heap_alloc_new w1 _
  obtain ⟨p0, p1, p2, p3, p4, p5⟩ := six_cells ((k12.block g0 (lt_of_block b1) (fun h => h)).trans b1)
  obtain ⟨q0, q1, q2, q3, q4, q5⟩ := six_cells b2
  have k02 := KF.trans k01 k12
  have ST := Lib.hid (hs.kept k02)
  have HN := Lib.hid hn
  have HW1 := Lib.hid hw1
  have HW2 := Lib.hid hw2
  have HG0 := Lib.hid hg0
  have hg1' : g1 = g0 + 1 := by rw [← hg1, ← hg0, ← hw1]; simp
  subst hg1'
  clear b1 b2 k01 k12 hw1 hw2 hg0 hg1 hs hn
  have hlp : Hid (x.path.length = (ba x.path).size) := Lib.hid (by rw [ba_size])
  have hlo : Hid (x.other.length = (ba x.other).size) := Lib.hid (by rw [ba_size])
  generalize hpl : x.path.length = lp at *
  generalize hol : x.other.length = lo at *
  have HPL := Lib.hid hpl
  have HOL := Lib.hid hol
  clear hpl hol hlp hlo
  go_enter Tryd.func8, Tryd.ntmps8
  go_upto_region 1 with fail
  rw [HW1.out, HW2.out, HG0.out]
  clear HW1 HW2 HG0
  have hbs1 := ba_size x.path
  have hbs2 := ba_size x.other
  rw [HPL.out] at hbs1
  rw [HOL.out] at hbs2
  by_cases h1 : (400 : Int) < (lp : Int)
  · go_wp2_with fail
    go_ret
    exact ⟨true, rfl, k02, fun h => by cases h⟩
  · by_cases h2 : (400 : Int) < (lo : Int)
    · go_wp2_with fail
      go_ret
      exact ⟨true, rfl, k02, fun h => by cases h⟩
    · by_cases h3 : (5000 : Int) < (d : Int)
      · go_wp2_with fail
        go_ret
        exact ⟨true, rfl, k02, fun h => by cases h⟩
      · by_cases h4 : (5000 : Int) < (d1 : Int)
        · go_wp2_with fail
          go_ret
          exact ⟨true, rfl, k02, fun h => by cases h⟩
        · by_cases h5 : (70 : Int) < (n2 : Int)
          · go_wp2_with fail
            go_ret
            exact ⟨true, rfl, k02, fun h => by cases h⟩
          · by_cases h6 : (12000 : Int) < (n3 : Int)
            · go_wp2_with fail
              go_ret
              exact ⟨true, rfl, k02, fun h => by cases h⟩
            · have HSM : Hid ((∀ p ∈ names, p.length ≤ 400) → Small5 x d d1 n3 names) := Lib.hid fun h => ⟨by rw [HPL.out]; omega, by rw [HOL.out]; omega, by omega, by omega, by rw [← HN.out]; omega, by omega, h⟩
              clear HPL HOL
              go_wp2_with fail
              go_loopg [45] n2 (fun gh i wr => ∃ k : Nat, k ≤ n2 ∧ n2 - k ≤ gh ∧ i = .int .i64 k ∧ wr = w2 ∧ Hid (∀ p ∈ names.take k, p.length ≤ 400))
              case atStart => exact ⟨0, by omega, by omega, rfl, rfl, Lib.hid (by simp)⟩
              case round =>
                obtain ⟨k, hk, hgk, rfl, rfl, HA⟩ := hrel
                rcases Nat.lt_or_ge k n2 with hlt | hge
                · have hlt' : (k : Int) < (n2 : Int) := by omega
                  have q1 : k < names.length := by rw [← HN.out]; exact hlt
                  obtain ⟨b, o, rfl, hb, hcell⟩ := ST.out k (ba names[k]) (by rw [List.getElem?_map, List.getElem?_eq_getElem q1]; rfl)
                  have hsz := ba_size names[k]
                  have HTK : Hid (names.take (k + 1) = names.take k ++ [names[k]]) := Lib.hid (List.take_succ_eq_append_getElem q1)
                  generalize names[k] = nm at *
                  generalize hnl : nm.length = ln at *
                  have HNL := Lib.hid hnl
                  clear hnl
                  by_cases h7 : (400 : Int) < (ln : Int)
                  · go_wp2_with fail
                    go_ret
                    exact ⟨true, rfl, k02, fun h => by cases h⟩
                  · go_wp2_with fail
                    go_roundg (n2 - (k + 1))
                    case measure => omega
                    case rel =>
                      refine ⟨k + 1, by omega, by omega, by go_num, rfl, Lib.hid fun p hp => ?_⟩
                      rw [HTK.out, List.mem_append] at hp
                      rcases hp with hp | hp
                      · exact HA.out p hp
                      · rw [List.mem_singleton.1 hp, HNL.out]; omega
                · obtain rfl : k = n2 := by omega
                  have hlt' : ¬ (k : Int) < (k : Int) := by omega
                  have hall : ∀ p ∈ names, p.length ≤ 400 := fun p hp => HA.out p (by rw [List.take_of_length_le (by rw [← HN.out]; exact Nat.le_refl _)]; exact hp)
                  have HALL := Lib.hid (HSM.out hall)
                  clear hall HA HSM
                  go_wp2_with fail
                  go_ret
                  exact ⟨false, rfl, k02, fun _ => HALL⟩
end Go.Proofs.YtklpebfkgdklmaaDoor
