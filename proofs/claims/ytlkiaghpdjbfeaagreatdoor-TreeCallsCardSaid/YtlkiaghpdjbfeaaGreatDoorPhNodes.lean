/-
  Rows of nodes in memory: five cells each; the document's SameNodes of two that are one.
-/
import Derived.Test.YtlkiaghpdjbfeaaGreatDoorChecked
import Derived.Test.YtlkiaghpdjbfeaaGreatDoorPk1
import Derived.Test.YtlkiaghpdjbfeaaGreatDoorPk0
import Derived.Test.YtlkiaghpdjbfeaaGreatDoorPhRef
import Derived.Deep.LoopGhost
import Derived.Deep.CutRange
import Derived.Deep.DeepCutAuto
import Derived.Deep.QuietTactic
import Derived.BigQuiet
import Derived.Deep.DrawnRows
import Derived.Deep.RegionWith
import Derived.Handy
namespace Go.Proofs.YtlkiaghpdjbfeaaGreatDoor
open Go.RowKit

/-- A node, with its number. -/
structure NodeV where
  number : Nat
  kind : Nat
  links : Nat
  data : Txt
  entries : Row
/-- A node's cells. -/
def nodeCells (x : NodeV) (A1 : Option Addr) (c1 : Nat) (A2 : Option Addr) (c2 : Nat) : List Value :=
  [.int .i64 (x.number : Int), .int .i64 (x.kind : Int), .int .i64 (x.links : Int), .slice A1 x.data.length c1, .slice A2 x.entries.length c2]
/-- From the address A on, in blocks below B, the cells hold the nodes ns. -/
def NodesAt (w : World) (B : Nat) (A : Option Addr) (ns : List NodeV) : Prop :=
  ∀ j x, ns[j]? = some x → ∃ b o A1 c1 A2 c2, A = some ⟨b, o, none⟩ ∧ b < B ∧
    w.cell? ⟨b, o + j * 5, none⟩ = some (.int .i64 (x.number : Int)) ∧ w.cell? ⟨b, o + j * 5 + 1, none⟩ = some (.int .i64 (x.kind : Int)) ∧ w.cell? ⟨b, o + j * 5 + 2, none⟩ = some (.int .i64 (x.links : Int)) ∧
    w.cell? ⟨b, o + j * 5 + 3, none⟩ = some (.slice A1 x.data.length c1) ∧ w.cell? ⟨b, o + j * 5 + 4, none⟩ = some (.slice A2 x.entries.length c2) ∧ Rd w B A1 x.data ∧ Ents w B A2 x.entries

theorem two_new (w : World) (X Y : Obj) : ((w.alloc X).alloc Y).drew.heap[w.heap.size]? = some X ∧ ((w.alloc X).alloc Y).drew.heap[w.heap.size + 1]? = some Y := by
  have hs : (w.alloc X).heap.size = w.heap.size + 1 := by simp
  constructor
  · show ((w.alloc X).alloc Y).heap[w.heap.size]? = some X
    rw [heap_alloc_old (w.alloc X) Y (by omega)]
    exact heap_alloc_new w X
  · show ((w.alloc X).alloc Y).heap[w.heap.size + 1]? = some Y
    rw [← hs]
    exact heap_alloc_new (w.alloc X) Y
theorem cell_of_heap {w : World} {g j : Nat} {cs : Array Value} {t : TypeId} {v : Value} (h : w.heap[g]? = some (.cells cs t)) (hj : cs[j]? = some v) : w.cell? ⟨g, j, none⟩ = some v := by
  simp [World.cell?, h, hj]
set_option maxRecDepth 100000 in
set_option maxHeartbeats 4000000 in
theorem sameNodes_one (A A' : Option Addr) (ns : List NodeV) (n c c' : Nat) (w : World) (hn : n = ns.length) (hb : n ≤ 1000000) (hlen : ∀ x ∈ ns, x.data.length ≤ 1000000 ∧ x.entries.length ≤ 1000000) (h : NodesAt w w.heap.size A ns) (h' : NodesAt w w.heap.size A' ns) :
    Calls Tryz.prog 13 #[.slice A n c, .slice A' n c'] w fun e w' => e = .returned (.bool true) ∧ KF w w' := by
  have HN := Lib.hid hn
  have HS := Lib.hid h
  have HS' := Lib.hid h'
  clear h h' hn
  go_enter Tryz.func13, Tryz.ntmps13
  go_wp2_with fail
  go_loopg [5] n (fun g i wr => ∃ k : Nat, k ≤ n ∧ n - k ≤ g ∧ i = .int .i64 k ∧ KF w wr)
  case atStart => exact ⟨0, by omega, by omega, rfl, KF.refl _⟩
  case round =>
    obtain ⟨k, hk, hg, rfl, kr⟩ := hrel
    rcases Nat.lt_or_ge k n with hlt | hge
    · have hlt' : (k : Int) < (n : Int) := by omega
      have q1 : k < ns.length := by rw [← HN.out]; exact hlt
      obtain ⟨b, o, A1, c1, A2, c2, rfl, hbb, n0, n1, n2, n3, n4, hr1, he1⟩ := HS.out k _ (List.getElem?_eq_getElem q1)
      obtain ⟨b', o', A1', c1', A2', c2', rfl, hbb', n0', n1', n2', n3', n4', hr1', he1'⟩ := HS'.out k _ (List.getElem?_eq_getElem q1)
      have R := Lib.hid hr1
      have R' := Lib.hid hr1'
      have T := Lib.hid he1
      have T' := Lib.hid he1'
      clear hr1 hr1' he1 he1'
      obtain ⟨hl1, hl2⟩ := hlen _ (List.getElem_mem q1)
      generalize hx : ns[k] = x at *
      obtain ⟨w1, hw1⟩ : ∃ w1 : World, w1 = wr := ⟨_, rfl⟩
      subst hw1
      have cell := fun (p : Addr) (hp : p.block < w.heap.size) => kr.cell hp
      rw [← cell _ hbb] at n0 n1 n2 n3 n4
      rw [← cell _ hbb'] at n0' n1' n2' n3' n4'
      have hb1 : b < w1.heap.size := Nat.lt_of_lt_of_le hbb kr.size
      have hb1' : b' < w1.heap.size := Nat.lt_of_lt_of_le hbb' kr.size
      clear cell hx
      have hnk : x.number = x.number := rfl
      generalize (x.number : Int) = z0 at n0 n0'
      generalize (x.kind : Int) = z1 at n1 n1'
      generalize (x.links : Int) = z2 at n2 n2'
      generalize hd : x.data.length = ld at n3 n3'
      generalize he : x.entries.length = le at n4 n4'
      have HD := Lib.hid hd
      have HEe := Lib.hid he
      clear hd he hnk
      go_upto_region 6 with fail
      go_cut [6, 7] (fun s6 s7 wx => ∃ g1 g2 : Nat, s6 = .pointer (some ⟨g1, 0, none⟩) ∧ s7 = .pointer (some ⟨g2, 0, none⟩) ∧ KF w1 wx ∧ w1.heap.size ≤ g1 ∧ w1.heap.size ≤ g2 ∧
        wx.heap[g1]? = some (.cells #[.int .i64 z0, .int .i64 z1, .int .i64 z2, .slice A1 ld c1, .slice A2 le c2] 55) ∧ wx.heap[g2]? = some (.cells #[.int .i64 z0, .int .i64 z1, .int .i64 z2, .slice A1' ld c1', .slice A2' le c2'] 55))
      case first =>
        go_region
        · go_wp2_with fail
          go_meet
          exact ⟨w1.heap.size, w1.heap.size + 1, rfl, rfl, (((KF.refl w1).alloc _).alloc _).drew, Nat.le_refl _, Nat.le_succ _, (two_new ..).1, (two_new ..).2⟩
        · go_wp2_with fail
          go_meet
          exact ⟨w1.heap.size + 1, w1.heap.size, rfl, rfl, (((KF.refl w1).alloc _).alloc _).drew, Nat.le_succ _, Nat.le_refl _, (two_new ..).2, (two_new ..).1⟩
      case rest =>
        obtain ⟨g1, g2, rfl, rfl, kc, hg1, hg2, hp1, hp2⟩ := hcut
        have kwc := kr.trans kc
        have f0 : wc.cell? ⟨g1, 0, none⟩ = some (.int .i64 z0) := cell_of_heap hp1 rfl
        have f1 : wc.cell? ⟨g1, 1, none⟩ = some (.int .i64 z1) := cell_of_heap hp1 rfl
        have f2 : wc.cell? ⟨g1, 2, none⟩ = some (.int .i64 z2) := cell_of_heap hp1 rfl
        have f3 : wc.cell? ⟨g1, 3, none⟩ = some (.slice A1 ld c1) := cell_of_heap hp1 rfl
        have f4 : wc.cell? ⟨g1, 4, none⟩ = some (.slice A2 le c2) := cell_of_heap hp1 rfl
        have e0 : wc.cell? ⟨g2, 0, none⟩ = some (.int .i64 z0) := cell_of_heap hp2 rfl
        have e1 : wc.cell? ⟨g2, 1, none⟩ = some (.int .i64 z1) := cell_of_heap hp2 rfl
        have e2 : wc.cell? ⟨g2, 2, none⟩ = some (.int .i64 z2) := cell_of_heap hp2 rfl
        have e3 : wc.cell? ⟨g2, 3, none⟩ = some (.slice A1' ld c1') := cell_of_heap hp2 rfl
        have e4 : wc.cell? ⟨g2, 4, none⟩ = some (.slice A2' le c2') := cell_of_heap hp2 rfl
        clear hp1 hp2 n0 n1 n2 n3 n4 n0' n1' n2' n3' n4'
        have SB := Lib.hid (same_is (c1 := c1) (c2 := c1') (w := wc) HD.out.symm HD.out.symm (by have := HD.out; omega) (R.out.keepF kwc (Nat.le_refl _)) (R'.out.keepF kwc (Nat.le_refl _)))
        have TC := Lib.hid (T.out.keep (Nat.le_refl _) kwc fun _ _ h => h)
        have TC' := Lib.hid (T'.out.keep (Nat.le_refl _) kwc fun _ _ h => h)
        have hle : le ≤ 1000000 := by have := HEe.out; omega
        go_wp2_with fail
        refine SB.out.mono ?_
        rintro e w3 ⟨rfl, nq, rfl⟩
        go_wp2_with fail
        go_loopg [8] le (fun g i wr => ∃ k2 nq2 : Nat, k2 ≤ le ∧ le - k2 ≤ g ∧ i = .int .i64 k2 ∧ wr = wc.drewN nq2)
        case atStart => exact ⟨0, nq, by omega, by omega, rfl, rfl⟩
        case round =>
          obtain ⟨k2, nq2, hk2, hg2', rfl, rfl⟩ := hrel
          have q0 : (wc.drewN nq2).cell? ⟨g1, 4, none⟩ = some (.slice A2 le c2) := f4
          rcases Nat.lt_or_ge k2 le with hlt2 | hge2
          · have hlt2' : (k2 : Int) < (le : Int) := by omega
            have q2 : k2 < x.entries.length := by rw [HEe.out]; exact hlt2
            obtain ⟨b2, o2, rfl, _, m1, m2⟩ := TC.out.at_ q2
            obtain ⟨b3, o3, rfl, _, m1', m2'⟩ := TC'.out.at_ q2
            generalize ba x.entries[k2].1 = nm at m1 m1'
            generalize (x.entries[k2].2 : Int) = nd at m2 m2'
            go_wp2
            go_quiet (fail)
            go_wp2_with fail
            go_roundg (le - (k2 + 1))
            case measure => omega
            case rel => exact ⟨k2 + 1, _, by omega, by omega, by go_num, rfl⟩
          · obtain rfl : k2 = le := by omega
            have hlt2' : ¬ (k2 : Int) < (k2 : Int) := by omega
            go_wp2_with fail
            go_roundg (n - (k + 1))
            case measure => omega
            case rel => exact ⟨k + 1, by omega, by omega, by go_num, (kwc.drewN _)⟩
    · obtain rfl : k = n := by omega
      have hlt' : ¬ (k : Int) < (k : Int) := by omega
      go_wp2_with fail
      go_ret
      exact ⟨rfl, kr⟩
end Go.Proofs.YtlkiaghpdjbfeaaGreatDoor
