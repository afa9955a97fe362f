/-
  A device's pages as plain data, and what is done to them. It speaks of no program.
-/
import Derived.WalkKit
namespace Go.Proofs.Ytncenfgnhamdbaa

/-- A page: 0 empty, 1 whole, 2 torn; what it holds. -/
structure Pg where
  st : Nat
  by_ : List UInt8
/-- How many pages there are; those up to the last one that isn't empty; how many of these last. -/
structure Dv where
  room : Nat
  pages : List Pg
  last : Nat

def pickN (picks : List UInt8) (i : Nat) : Nat := if picks.length = 0 then 0 else (picks.getD (i % picks.length) 0).toNat % 3
def crashP (p : Pg) (s : Nat) : Pg := if s = 1 then p else ⟨s, []⟩
/-- The pages behind i steps of a crash, the first 'last' of which last. -/
def crashI (picks : List UInt8) (last i : Nat) (l : List Pg) : List Pg := l.mapIdx fun j p => if last ≤ j ∧ j < last + i then crashP p (pickN picks (j - last)) else p
/-- From n back, as long as pages are empty. -/
def endN (l : List Pg) : Nat → Nat
  | 0 => 0
  | n + 1 => if (l[n]?.map Pg.st) = some 0 then endN l n else n + 1
def trim (l : List Pg) : List Pg := l.take (endN l l.length)
def wholes (l : List Pg) : List (List UInt8) := (l.filter (fun p => p.st == 1)).map Pg.by_
def Dv.crash (d : Dv) (picks : List UInt8) : Dv :=
  { room := d.room, pages := trim (crashI picks d.last (d.pages.length - d.last) d.pages), last := (trim (crashI picks d.last (d.pages.length - d.last) d.pages)).length }
def Dv.push (d : Dv) (b : List UInt8) : Dv := if d.room - d.pages.length = 0 then d else { d with pages := d.pages ++ [⟨1, b⟩] }
def Dv.sync (d : Dv) : Dv := { d with last := d.pages.length }
def Dv.wipe (d : Dv) : Dv := { d with pages := [], last := 0 }

theorem pickN_lt (picks : List UInt8) (i : Nat) : pickN picks i < 3 := by
  unfold pickN
  split <;> omega
theorem crashI_length (picks : List UInt8) (last i : Nat) (l : List Pg) : (crashI picks last i l).length = l.length := by simp [crashI]
theorem crashI_zero (picks : List UInt8) (last : Nat) (l : List Pg) : crashI picks last 0 l = l := by
  apply List.ext_getElem?
  intro j
  simp only [crashI, List.getElem?_mapIdx]
  rcases l[j]? with _ | p
  · rfl
  · simp only [Option.map_some]
    rw [if_neg (by omega)]
theorem crashI_get (picks : List UInt8) (last i : Nat) (l : List Pg) (j : Nat) : (crashI picks last i l)[j]? = l[j]?.map fun p => if last ≤ j ∧ j < last + i then crashP p (pickN picks (j - last)) else p := by
  simp [crashI, List.getElem?_mapIdx]
theorem crashI_step (picks : List UInt8) (last i : Nat) (l : List Pg) (h : last + i < l.length) :
    crashI picks last (i + 1) l = (crashI picks last i l).set (last + i) (crashP (l[last + i]'h) (pickN picks i)) := by
  apply List.ext_getElem?
  intro j
  rw [List.getElem?_set, crashI_get, crashI_length]
  by_cases e : last + i = j
  · subst e
    rw [if_pos rfl, if_pos h, List.getElem?_eq_getElem h, Option.map_some, if_pos (by omega), Nat.add_sub_cancel_left]
  · rw [if_neg e, crashI_get]
    rcases l[j]? with _ | p
    · rfl
    · simp only [Option.map_some]
      by_cases h1 : last ≤ j ∧ j < last + i
      · rw [if_pos h1, if_pos (by omega)]
      · rw [if_neg h1, if_neg (by omega)]
theorem crashI_untouched (picks : List UInt8) (last i : Nat) (l : List Pg) (h : last + i < l.length) : (crashI picks last i l)[last + i]'(by rw [crashI_length]; exact h) = l[last + i]'h := by
  have := crashI_get picks last i l (last + i)
  rw [List.getElem?_eq_getElem (by rw [crashI_length]; exact h), List.getElem?_eq_getElem h, Option.map_some, if_neg (by omega)] at this
  exact Option.some.inj this
theorem endN_le (l : List Pg) : ∀ n, endN l n ≤ n
  | 0 => Nat.le_refl _
  | n + 1 => by
    unfold endN
    split
    · exact Nat.le_succ_of_le (endN_le l n)
    · exact Nat.le_refl _
theorem endN_last (l : List Pg) : ∀ n, n ≤ l.length → 0 < endN l n → ∃ p, l[endN l n - 1]? = some p ∧ p.st ≠ 0
  | 0, _, h => by simp [endN] at h
  | n + 1, hn, h => by
    unfold endN at h ⊢
    split
    · next he =>
      rw [if_pos he] at h
      exact endN_last l n (by omega) h
    · next he =>
      refine ⟨l[n]'(by omega), by rw [Nat.add_sub_cancel]; exact List.getElem?_eq_getElem _, fun h0 => he ?_⟩
      rw [List.getElem?_eq_getElem (by omega), Option.map_some, h0]
theorem endN_empty (l : List Pg) : ∀ n j, endN l n ≤ j → j < n → l[j]?.map Pg.st = some 0
  | 0, _, _, h => absurd h (by omega)
  | n + 1, j, h1, h2 => by
    unfold endN at h1
    split at h1
    · next he =>
      rcases Nat.lt_or_ge j n with h | h
      · exact endN_empty l n j h1 h
      · obtain rfl : j = n := by omega
        exact he
    · omega
theorem trim_length (l : List Pg) : (trim l).length = endN l l.length := by
  have := endN_le l l.length
  simp only [trim, List.length_take]
  omega
theorem trim_le (l : List Pg) : (trim l).length ≤ l.length := by rw [trim_length]; exact endN_le _ _
theorem wholes_append (l m : List Pg) : wholes (l ++ m) = wholes l ++ wholes m := by simp [wholes]
theorem wholes_empty : ∀ l : List Pg, (∀ p ∈ l, p.st = 0) → wholes l = []
  | [], _ => rfl
  | p :: l, h => by
    have h0 := h p (by simp)
    have := wholes_empty l fun q hq => h q (by simp [hq])
    simp only [wholes] at this ⊢
    simp [h0, this]
theorem wholes_trim (l : List Pg) : wholes (trim l) = wholes l := by
  conv => rhs; rw [← List.take_append_drop (endN l l.length) l, wholes_append]
  rw [wholes_empty (l.drop (endN l l.length)), List.append_nil]
  · rfl
  · intro p hp
    obtain ⟨j, hj, rfl⟩ := List.mem_iff_getElem.1 hp
    rw [List.length_drop] at hj
    have := endN_empty l l.length (endN l l.length + j) (by omega) (by omega)
    rw [List.getElem?_eq_getElem (by omega), Option.map_some] at this
    rw [List.getElem_drop]
    exact Option.some.inj this
theorem wholes_le (l : List Pg) : (wholes l).length ≤ l.length := by
  simp only [wholes, List.length_map]
  exact List.length_filter_le _ _

/-- What every device keeps. -/
structure DGood (d : Dv) : Prop where
  last : d.last ≤ d.pages.length
  whole : ∀ j p, d.last ≤ j → d.pages[j]? = some p → p.st = 1
  room : d.pages.length ≤ d.room
  st : ∀ p ∈ d.pages, p.st < 3
  lastOne : ∀ p, d.pages.getLast? = some p → p.st ≠ 0
  bare : ∀ p ∈ d.pages, p.st ≠ 1 → p.by_ = []
theorem DGood.new (n : Nat) : DGood ⟨n, [], 0⟩ := ⟨Nat.le_refl _, fun j p _ h => by simp at h, Nat.zero_le _, fun p h => by simp at h, fun p h => by simp at h, fun p h => by simp at h⟩
theorem DGood.sync {d : Dv} (h : DGood d) : DGood d.sync :=
  ⟨Nat.le_refl _, fun j p hj hp => (by
    have hp' : d.pages[j]? = some p := hp
    rw [List.getElem?_eq_none hj] at hp'
    cases hp'), h.room, h.st, h.lastOne, h.bare⟩
theorem DGood.wipe {d : Dv} (_ : DGood d) : DGood d.wipe := ⟨Nat.le_refl _, fun j p _ h => by simp [Dv.wipe] at h, Nat.zero_le _, fun p h => by simp [Dv.wipe] at h, fun p h => by simp [Dv.wipe] at h, fun p h => by simp [Dv.wipe] at h⟩
theorem DGood.push {d : Dv} (h : DGood d) (b : List UInt8) : DGood (d.push b) := by
  unfold Dv.push
  split
  · exact h
  · have := h.last
    refine ⟨by simp; omega, fun j p hj hp => ?_, by simp; omega, fun p hp => ?_, fun p hp => ?_, fun p hp h1 => ?_⟩
    · simp only at hj hp
      rcases Nat.lt_or_ge j d.pages.length with hl | hl
      · rw [List.getElem?_append_left hl] at hp
        exact h.whole j p hj hp
      · rw [List.getElem?_append_right hl] at hp
        have := List.mem_of_getElem? hp
        simp only [List.mem_singleton] at this
        subst this
        rfl
    · simp only [List.mem_append, List.mem_singleton] at hp
      rcases hp with hp | rfl
      · exact h.st p hp
      · show 1 < 3
        decide
    · simp only [List.getLast?_concat, Option.some.injEq] at hp
      subst hp
      show 1 ≠ 0
      decide
    · simp only [List.mem_append, List.mem_singleton] at hp
      rcases hp with hp | rfl
      · exact h.bare p hp h1
      · exact absurd rfl h1
theorem crashP_st {p : Pg} {s : Nat} (hp : p.st < 3) (hs : s < 3) : (crashP p s).st < 3 := by
  unfold crashP
  split <;> assumption
theorem crashI_bare {picks : List UInt8} {last i : Nat} {l : List Pg} (h : ∀ p ∈ l, p.st ≠ 1 → p.by_ = []) : ∀ p ∈ crashI picks last i l, p.st ≠ 1 → p.by_ = [] := fun p hp h1 => by
  obtain ⟨j, hj⟩ := List.mem_iff_getElem?.1 hp
  rw [crashI_get] at hj
  rcases e : l[j]? with _ | q
  · rw [e] at hj; cases hj
  · rw [e, Option.map_some] at hj
    injection hj with hj
    have hq := h q (List.mem_of_getElem? e)
    rw [← hj] at h1 ⊢
    split at h1
    · next hc =>
      rw [if_pos hc]
      unfold crashP at h1 ⊢
      split at h1
      · next h2 =>
        rw [if_pos h2]
        exact hq h1
      · next h2 => rw [if_neg h2]
    · next hc =>
      rw [if_neg hc]
      exact hq h1
theorem DGood.crash {d : Dv} (h : DGood d) (picks : List UInt8) : DGood (d.crash picks) := by
  have hle := trim_le (crashI picks d.last (d.pages.length - d.last) d.pages)
  rw [crashI_length] at hle
  refine ⟨Nat.le_refl _, fun j p hj hp => ?_, Nat.le_trans hle h.room, fun p hp => ?_, fun p hp => ?_, fun p hp h1 => ?_⟩
  · simp only [Dv.crash] at hj hp
    rw [List.getElem?_eq_none hj] at hp
    cases hp
  · have hp' := List.mem_of_mem_take hp
    obtain ⟨j, hj⟩ := List.mem_iff_getElem?.1 hp'
    rw [crashI_get] at hj
    rcases e : d.pages[j]? with _ | q
    · rw [e] at hj; cases hj
    · rw [e, Option.map_some] at hj
      injection hj with hj
      have hq := h.st q (List.mem_of_getElem? e)
      rw [← hj]
      split
      · exact crashP_st hq (pickN_lt _ _)
      · exact hq
  · rw [List.getLast?_eq_getElem?] at hp
    simp only [Dv.crash] at hp
    generalize crashI picks d.last (d.pages.length - d.last) d.pages = l at hp
    rw [trim_length] at hp
    rcases Nat.eq_zero_or_pos (endN l l.length) with h0 | h0
    · simp [trim, h0] at hp
    · obtain ⟨q, hq, hne⟩ := endN_last l l.length (Nat.le_refl _) h0
      rw [trim, List.getElem?_take, if_pos (by omega), hq] at hp
      injection hp with hp
      rw [← hp]
      exact hne
  · exact crashI_bare h.bare p (List.mem_of_mem_take hp) h1
theorem Dv.push_full {d : Dv} (h : d.room ≤ d.pages.length) (b : List UInt8) : d.push b = d := by
  unfold Dv.push
  rw [if_pos (by omega)]
theorem Dv.push_room {d : Dv} (h : d.pages.length < d.room) (b : List UInt8) : d.push b = { d with pages := d.pages ++ [⟨1, b⟩] } := by
  unfold Dv.push
  rw [if_neg (by omega)]
/-- Whole pages. -/
def whl (ls : List (List UInt8)) : List Pg := ls.map fun b => ⟨1, b⟩
theorem whl_length (ls : List (List UInt8)) : (whl ls).length = ls.length := by simp [whl]
theorem wholes_whl : ∀ ls : List (List UInt8), wholes (whl ls) = ls
  | [] => rfl
  | b :: ls => by
    have := wholes_whl ls
    simp only [wholes, whl] at this ⊢
    simp [this]
theorem crashI_take (picks : List UInt8) (last i : Nat) (l : List Pg) : (crashI picks last i l).take last = l.take last := by
  apply List.ext_getElem?
  intro j
  rw [List.getElem?_take, List.getElem?_take]
  split
  · rw [crashI_get]
    rcases l[j]? with _ | p
    · rfl
    · rw [Option.map_some, if_neg (by omega)]
  · rfl
/-- What is there behind a crash: what was synced, and of the rest no more than there were. -/
theorem lasts_crash (room : Nat) (ls ms : List (List UInt8)) (picks : List UInt8) :
    ∃ ns, wholes (Dv.crash ⟨room, whl ls ++ whl ms, ls.length⟩ picks).pages = ls ++ ns ∧ ns.length ≤ ms.length := by
  refine ⟨wholes ((crashI picks ls.length ((whl ls ++ whl ms).length - ls.length) (whl ls ++ whl ms)).drop ls.length), ?_, Nat.le_trans (wholes_le _) ?_⟩
  · show wholes (trim _) = _
    rw [wholes_trim]
    conv => lhs; rw [← List.take_append_drop ls.length (crashI picks ls.length ((whl ls ++ whl ms).length - ls.length) (whl ls ++ whl ms)), wholes_append, crashI_take]
    have : (whl ls ++ whl ms).take ls.length = whl ls := by rw [← whl_length ls]; exact List.take_left' rfl
    rw [this, wholes_whl]
  · rw [List.length_drop, crashI_length, List.length_append, whl_length, whl_length]
    omega
theorem pickN_one (z : UInt8) (i : Nat) : pickN [z] i = z.toNat % 3 := by simp [pickN, Nat.mod_one]
/-- Pages that are all whole, and crash by one pick. -/
theorem crash_one (n : Nat) (b : List UInt8) (z : UInt8) :
    crashI [z] 0 ((List.replicate n (⟨1, b⟩ : Pg)).length - 0) (List.replicate n ⟨1, b⟩) = List.replicate n (if z.toNat % 3 = 1 then ⟨1, b⟩ else ⟨z.toNat % 3, []⟩) := by
  apply List.ext_getElem?
  intro j
  rw [crashI_get, List.getElem?_replicate, List.getElem?_replicate, List.length_replicate, Nat.sub_zero]
  by_cases h : j < n
  · rw [if_pos h, if_pos h, Option.map_some, if_pos (by omega), pickN_one]
    rfl
  · rw [if_neg h, if_neg h]
    rfl
theorem endN_rep (p : Pg) (n : Nat) : ∀ k, k ≤ n → endN (List.replicate n p) k = if p.st = 0 then 0 else k
  | 0, _ => by simp [endN]
  | k + 1, hk => by
    have e : (List.replicate n p)[k]? = some p := by rw [List.getElem?_replicate, if_pos (by omega)]
    have e2 : endN (List.replicate n p) (k + 1) = if (some p.st) = some 0 then endN (List.replicate n p) k else k + 1 := by
      rw [endN, e]
      rfl
    rw [e2]
    by_cases h : p.st = 0
    · rw [if_pos (by rw [h]), endN_rep p n k (by omega), if_pos h, if_pos h]
    · rw [if_neg (by intro e; injection e with e; exact h e), if_neg h]
theorem trim_rep (p : Pg) (n : Nat) : trim (List.replicate n p) = if p.st = 0 then [] else List.replicate n p := by
  unfold trim
  rw [List.length_replicate, endN_rep p n n (Nat.le_refl _)]
  by_cases h : p.st = 0
  · rw [if_pos h, if_pos h]; rfl
  · rw [if_neg h, if_neg h, List.take_replicate, Nat.min_self]
theorem wholes_rep (p : Pg) (n : Nat) : (wholes (List.replicate n p)).length = if p.st = 1 then n else 0 := by
  by_cases h : p.st = 1
  · simp [wholes, h]
  · simp [wholes, h]
/-- A full device of whole pages, behind a crash by one pick: how many pages aren't empty, how many are whole. -/
theorem fills_crash (n : Nat) (b : List UInt8) (z : UInt8) :
    (Dv.crash ⟨n, List.replicate n ⟨1, b⟩, 0⟩ [z]).pages.length = (if z.toNat % 3 = 0 then 0 else n) ∧ (wholes (Dv.crash ⟨n, List.replicate n ⟨1, b⟩, 0⟩ [z]).pages).length = if z.toNat % 3 = 1 then n else 0 := by
  simp only [Dv.crash]
  rw [crash_one, trim_rep]
  by_cases h1 : z.toNat % 3 = 1
  · rw [if_pos h1, if_neg (show ¬ (1 = 0) by decide), if_pos h1, wholes_rep]
    constructor
    · rw [List.length_replicate, if_neg (by omega)]
    · rfl
  · rw [if_neg h1, if_neg h1]
    by_cases h0 : z.toNat % 3 = 0
    · rw [if_pos (by exact h0), if_pos h0]
      exact ⟨rfl, rfl⟩
    · rw [if_neg (by exact h0), if_neg h0, wholes_rep]
      exact ⟨List.length_replicate, if_neg (by exact h1)⟩
end Go.Proofs.Ytncenfgnhamdbaa
