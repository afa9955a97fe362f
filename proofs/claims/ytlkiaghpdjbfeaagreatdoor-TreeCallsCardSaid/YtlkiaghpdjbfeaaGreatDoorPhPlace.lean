/-
  The program's findPlace, findEntry.
-/
import Derived.Test.YtlkiaghpdjbfeaaGreatDoorPhFind
namespace Go.Proofs.YtlkiaghpdjbfeaaGreatDoor
open Go.RowKit Go.Maps

/-- A place, as a value. -/
def placeV (L : Lay) (d : Nat) (x : Txt) : Value := .agg #[.pointer (some ⟨L.nb d, 0, none⟩), .string (ba x)]
def nowhere : Value := .agg #[.pointer none, .string ⟨#[]⟩]
/-- What the program's findPlace answers. -/
def Places (L : Lay) (t : Tr) (s : Txt) (w : World) (e : Ending) (w' : World) : Prop := KF w w' ∧
  ((∃ k, place t s = .error k ∧ k ≠ 0 ∧ e = .returned (.tuple #[.agg #[.pointer none, .string ⟨#[]⟩], .int .i64 (k : Int)])) ∨
    ∃ d x, place t s = .ok (d, x) ∧ (t d).kind = 1 ∧ IsName x ∧ e = .returned (.tuple #[.agg #[.pointer (some ⟨L.nb d, 0, none⟩), .string (ba x)], .int .i64 0]))

set_option maxRecDepth 100000 in
theorem findPlace_any (s : ByteArray) (w : World) (L : Lay) (N : Nat) (t : Tr) (hT : TreeAt w L N t) (g : Good t) (hs : s.size ≤ 1000000) (he : Env w) :
    Calls Tryz.prog 87 #[.pointer (some ⟨L.tb, 0, none⟩), .string s] w (Places L t s.data.toList w) := by
  have HC := Lib.hid fun X => above_any s (w.alloc X) L N t (hT.far ((KF.refl w).alloc X)) g hs (he.kept ((KF.refl w).alloc X))
  have HT := Lib.hid hT
  have HG := Lib.hid g
  clear hT g
  go_enter Tryz.func87, Tryz.ntmps87
  go_wp2_with fail
  refine (HC.out _).mono ?_
  rintro e w1 ⟨k1, ⟨k, x, hk, hk0, rfl⟩ | ⟨d, x, hd, hd1, hx, rfl⟩⟩
  · have HU := Lib.hid hk
    have h0 : ((k : Int) != 0) = true := bne_iff_ne.2 (by omega)
    clear hk
    have c0 := fresh_cell k1 0 rfl
    have c1 := fresh_cell k1 1 rfl
    have f0 := fresh_open k1 0
    have f1 := fresh_open k1 1
    have hlt := Nat.lt_of_lt_of_le (show w.heap.size < (w.alloc (.cells #[.pointer none, .string ⟨#[]⟩] 138)).heap.size by simp) k1.size
    go_wp2_with fail
    refine bodyPost_ret (v := .tuple #[.agg #[.pointer none, .string ⟨#[]⟩], .int .i64 (k : Int)]) (by simp [results, Tryz.results87, go_sem, World.cell?_alloc_lt, hlt, c0, c1]) rfl ?_
    exact ⟨(fresh_two (fresh_far k1)).alloc _, .inl ⟨k, (up_no HU.out).1, hk0, rfl⟩⟩
  · have HU := Lib.hid hd
    have HX := Lib.hid hx
    have T1 := HT.out.far (fresh_far k1)
    have hl16 := hx.2.2.1
    clear hd hx
    have c0 := fresh_cell k1 0 rfl
    have c1 := fresh_cell k1 1 rfl
    have f0 := fresh_open k1 0
    have f1 := fresh_open k1 1
    have hlt := Nat.lt_of_lt_of_le (show w.heap.size < (w.alloc (.cells #[.pointer none, .string ⟨#[]⟩] 138)).heap.size by simp) k1.size
    obtain ⟨w2, hw2⟩ : ∃ w2, w1.alloc (.cells #[.pointer (some ⟨L.nb d, 0, none⟩), .string (ba x)] 138) = w2 := ⟨_, rfl⟩
    have k2 : KF (w1.alloc (.cells #[.pointer (some ⟨L.nb d, 0, none⟩), .string (ba x)] 138)) w2 := hw2 ▸ KF.refl _
    have d0 := fresh_cell k2 0 rfl
    have d1 := fresh_cell k2 1 rfl
    have T2 := T1.far (fresh_far k2)
    have cd := T2.cell_dir hd1
    have lx := fun n => (T2.drew n).look_name hd1 (x := x) (by simp only [maxLen]; omega)
    have HW := Lib.hid hw2
    generalize hb : ba x = x0 at *
    have HB := Lib.hid hb
    clear hb hw2
    have kw2 := KF.trans (fresh_far k1) (fresh_far k2)
    have q0 : w2.cell? ⟨w.heap.size, 0, none⟩ = some (.pointer none) := by rw [(fresh_far k2).cell hlt]; exact c0
    have q1 : w2.cell? ⟨w.heap.size, 1, none⟩ = some (.string ⟨#[]⟩) := by rw [(fresh_far k2).cell hlt]; exact c1
    have g0 : w2.frozen? ⟨w.heap.size, 0, none⟩ = false := by rw [Keep.frozen (fresh_far k2) hlt fun h => h]; exact f0
    have g1 : w2.frozen? ⟨w.heap.size, 1, none⟩ = false := by rw [Keep.frozen (fresh_far k2) hlt fun h => h]; exact f1
    have hne : w1.heap.size ≠ w.heap.size := by omega
    rcases hlook : look (t d).entries x with _ | m
    · rw [hlook] at lx
      have HL := Lib.hid hlook
      clear hlook
      simp only [Option.isSome_none, Option.getD_none] at lx
      go_upto_region 4 with fail
      rw [HW.out]
      clear c0 c1 f0 f1
      go_quiet (fail)
      go_wp2_with fail
      refine bodyPost_ret (v := .tuple #[.agg #[.pointer (some ⟨L.nb d, 0, none⟩), .string x0], .int .i64 0]) (by simp [results, Tryz.results87, go_sem, q0, q1]) rfl ?_
      exact ⟨fresh_two (kw2.drewN _), .inr ⟨d, x, (up_free HU.out HL.out).1, hd1, HX.out, by rw [HB.out]⟩⟩
    · rw [hlook] at lx
      have HL := Lib.hid hlook
      clear hlook
      simp only [Option.isSome_some, Option.getD_some] at lx
      go_upto_region 4 with fail
      rw [HW.out]
      clear c0 c1 f0 f1
      go_quiet (fail)
      go_wp2_with fail
      refine bodyPost_ret (v := .tuple #[.agg #[.pointer none, .string ⟨#[]⟩], .int .i64 22]) (by simp [results, Tryz.results87, go_sem, q0, q1]) rfl ?_
      exact ⟨fresh_two (kw2.drewN _), .inl ⟨22, (up_taken HU.out HL.out).1, by decide, rfl⟩⟩

/-- What the program's findEntry answers. -/
def Entries (L : Lay) (t : Tr) (s : Txt) (w : World) (e : Ending) (w' : World) : Prop := KF w w' ∧
  ((∃ k, findUp t s = .error k ∧ k ≠ 0 ∧ e = .returned (.tuple #[.agg #[.pointer none, .string ⟨#[]⟩], .int .i64 0, .int .i64 (k : Int)])) ∨
    ∃ a d x, findUp t s = .ok (a, d, x) ∧ (t d).kind = 1 ∧ IsName x ∧ look (t d).entries x = some a ∧ e = .returned (.tuple #[.agg #[.pointer (some ⟨L.nb d, 0, none⟩), .string (ba x)], .int .i64 (a : Int), .int .i64 0]))

set_option maxRecDepth 100000 in
theorem findEntry_any (s : ByteArray) (w : World) (L : Lay) (N : Nat) (t : Tr) (hT : TreeAt w L N t) (g : Good t) (hs : s.size ≤ 1000000) (he : Env w) :
    Calls Tryz.prog 89 #[.pointer (some ⟨L.tb, 0, none⟩), .string s] w (Entries L t s.data.toList w) := by
  have HC := Lib.hid fun X => above_any s (w.alloc X) L N t (hT.far ((KF.refl w).alloc X)) g hs (he.kept ((KF.refl w).alloc X))
  have HT := Lib.hid hT
  have HG := Lib.hid g
  clear hT g
  go_enter Tryz.func89, Tryz.ntmps89
  go_wp2_with fail
  refine (HC.out _).mono ?_
  rintro e w1 ⟨k1, ⟨k, x, hk, hk0, rfl⟩ | ⟨d, x, hd, hd1, hx, rfl⟩⟩
  · have HU := Lib.hid hk
    have h0 : ((k : Int) != 0) = true := bne_iff_ne.2 (by omega)
    clear hk
    have c0 := fresh_cell k1 0 rfl
    have c1 := fresh_cell k1 1 rfl
    have f0 := fresh_open k1 0
    have f1 := fresh_open k1 1
    have hlt := Nat.lt_of_lt_of_le (show w.heap.size < (w.alloc (.cells #[.pointer none, .string ⟨#[]⟩] 138)).heap.size by simp) k1.size
    go_wp2_with fail
    refine bodyPost_ret (v := .tuple #[.agg #[.pointer none, .string ⟨#[]⟩], .int .i64 0, .int .i64 (k : Int)]) (by simp [results, Tryz.results89, go_sem, World.cell?_alloc_lt, hlt, c0, c1]) rfl ?_
    exact ⟨(fresh_two (fresh_far k1)).alloc _, .inl ⟨k, (up_no HU.out).2, hk0, rfl⟩⟩
  · have HU := Lib.hid hd
    have HX := Lib.hid hx
    have T1 := HT.out.far (fresh_far k1)
    have hl16 := hx.2.2.1
    clear hd hx
    have c0 := fresh_cell k1 0 rfl
    have c1 := fresh_cell k1 1 rfl
    have f0 := fresh_open k1 0
    have f1 := fresh_open k1 1
    have hlt := Nat.lt_of_lt_of_le (show w.heap.size < (w.alloc (.cells #[.pointer none, .string ⟨#[]⟩] 138)).heap.size by simp) k1.size
    obtain ⟨w2, hw2⟩ : ∃ w2, w1.alloc (.cells #[.pointer (some ⟨L.nb d, 0, none⟩), .string (ba x)] 138) = w2 := ⟨_, rfl⟩
    have k2 : KF (w1.alloc (.cells #[.pointer (some ⟨L.nb d, 0, none⟩), .string (ba x)] 138)) w2 := hw2 ▸ KF.refl _
    have d0 := fresh_cell k2 0 rfl
    have d1 := fresh_cell k2 1 rfl
    have T2 := T1.far (fresh_far k2)
    have cd := T2.cell_dir hd1
    have lx := fun n => (T2.drew n).look_name hd1 (x := x) (by simp only [maxLen]; omega)
    have HW := Lib.hid hw2
    generalize hb : ba x = x0 at *
    have HB := Lib.hid hb
    clear hb hw2
    have kw2 := KF.trans (fresh_far k1) (fresh_far k2)
    have q0 : w2.cell? ⟨w.heap.size, 0, none⟩ = some (.pointer none) := by rw [(fresh_far k2).cell hlt]; exact c0
    have q1 : w2.cell? ⟨w.heap.size, 1, none⟩ = some (.string ⟨#[]⟩) := by rw [(fresh_far k2).cell hlt]; exact c1
    have g0 : w2.frozen? ⟨w.heap.size, 0, none⟩ = false := by rw [Keep.frozen (fresh_far k2) hlt fun h => h]; exact f0
    have g1 : w2.frozen? ⟨w.heap.size, 1, none⟩ = false := by rw [Keep.frozen (fresh_far k2) hlt fun h => h]; exact f1
    have hne : w1.heap.size ≠ w.heap.size := by omega
    rcases hlook : look (t d).entries x with _ | m
    · rw [hlook] at lx
      have HL := Lib.hid hlook
      clear hlook
      simp only [Option.isSome_none, Option.getD_none] at lx
      go_upto_region 4 with fail
      rw [HW.out]
      clear c0 c1 f0 f1
      go_quiet (fail)
      go_wp2_with fail
      refine bodyPost_ret (v := .tuple #[.agg #[.pointer none, .string ⟨#[]⟩], .int .i64 0, .int .i64 21]) (by simp [results, Tryz.results89, go_sem, q0, q1]) rfl ?_
      exact ⟨fresh_two (kw2.drewN _), .inl ⟨21, (up_free HU.out HL.out).2, by decide, rfl⟩⟩
    · rw [hlook] at lx
      have HL := Lib.hid hlook
      clear hlook
      simp only [Option.isSome_some, Option.getD_some] at lx
      go_upto_region 4 with fail
      rw [HW.out]
      clear c0 c1 f0 f1
      go_quiet (fail)
      go_wp2_with fail
      refine bodyPost_ret (v := .tuple #[.agg #[.pointer (some ⟨L.nb d, 0, none⟩), .string x0], .int .i64 (m : Int), .int .i64 0]) (by simp [results, Tryz.results89, go_sem, q0, q1]) rfl ?_
      exact ⟨fresh_two (kw2.drewN _), .inr ⟨m, d, x, (up_taken HU.out HL.out).2, hd1, HX.out, HL.out, by rw [HB.out]⟩⟩

theorem least_free {t : Tr} {n : Nat} (h : least t = some n) : ∀ m, m < n → (t m).kind ≠ 0 := by
  unfold least at h
  intro m hm hk
  have := (List.find?_range_eq_some.1 h).2.2 m hm
  simp [hk] at this

/-- The least number that no node has. -/
theorem free_any (w : World) (L : Lay) (N : Nat) (t : Tr) (n : Nat) (hT : TreeAt w L N t) (hn : least t = some n) :
    Calls Tryz.prog 88 #[.pointer (some ⟨L.tb, 0, none⟩)] w fun e w' => w' = w ∧ e = .returned (.int .i64 (n : Int)) := by
  have ht := hT.cell_tree
  have HT := Lib.hid hT
  have HN := Lib.hid hn
  have hn64 := (least_ok hn).2
  clear hT hn
  go_enter Tryz.func88, Tryz.ntmps88
  go_wp2_with fail
  go_loopg [3] n (fun g s3 wr => ∃ k : Nat, k ≤ n ∧ n - k ≤ g ∧ s3 = .int .i64 k ∧ wr = w)
  case atStart => exact ⟨0, by omega, by omega, rfl, rfl⟩
  case round =>
    obtain ⟨k, hk, hg, rfl, rfl⟩ := hrel
    rcases Nat.lt_or_ge k n with hlt | hge
    · have lk := HT.out.look_yes (n := k) (by omega) (least_free HN.out k hlt)
      go_wp2_with fail
      go_roundg (n - (k + 1))
      case measure => omega
      case rel => exact ⟨k + 1, by omega, by omega, by go_num, rfl⟩
    · obtain rfl : k = n := by omega
      have lk := HT.out.look_node (n := k) (by omega)
      rw [if_neg (by rw [(least_ok HN.out).1]; decide)] at lk
      go_wp2_with fail
      go_ret
      exact ⟨rfl, rfl⟩
end Go.Proofs.YtlkiaghpdjbfeaaGreatDoor
