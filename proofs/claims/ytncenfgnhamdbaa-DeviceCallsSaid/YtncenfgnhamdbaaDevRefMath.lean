/-
  The document's device as plain data, and that it is the program's. It speaks of no program.
-/
import Derived.Test.YtncenfgnhamdbaaDevMath
namespace Go.Proofs.Ytncenfgnhamdbaa

structure RPg where
  st : Nat
  by_ : List UInt8
  lasts : Bool
def rZero : RPg := ⟨0, [], false⟩
/-- The first i elements are turned. -/
def upto {α : Type} (f : Nat → α → α) (i : Nat) (l : List α) : List α := l.mapIdx fun j x => if j < i then f j x else x
section
variable {α : Type} {f : Nat → α → α} {i : Nat} {l : List α}
theorem upto_length : (upto f i l).length = l.length := by simp [upto]
theorem upto_get (j : Nat) : (upto f i l)[j]? = l[j]?.map fun x => if j < i then f j x else x := by simp [upto, List.getElem?_mapIdx]
theorem upto_zero : upto f 0 l = l := by
  apply List.ext_getElem?
  intro j
  rw [upto_get]
  rcases l[j]? with _ | x
  · rfl
  · rw [Option.map_some, if_neg (by omega)]
theorem upto_at (h : i < l.length) : (upto f i l)[i]? = some (l[i]'h) := by
  rw [upto_get, List.getElem?_eq_getElem h, Option.map_some, if_neg (by omega)]
theorem upto_step (h : i < l.length) : upto f (i + 1) l = (upto f i l).set i (f i (l[i]'h)) := by
  apply List.ext_getElem?
  intro j
  rw [List.getElem?_set, upto_get, upto_length, upto_get]
  by_cases e : i = j
  · subst e
    rw [if_pos rfl, if_pos h, List.getElem?_eq_getElem h, Option.map_some, if_pos (by omega)]
  · rw [if_neg e]
    rcases l[j]? with _ | x
    · rfl
    · rw [Option.map_some, Option.map_some]
      by_cases h1 : j < i
      · rw [if_pos h1, if_pos (by omega)]
      · rw [if_neg h1, if_neg (by omega)]
theorem upto_same (h : i < l.length) (hf : f i (l[i]'h) = l[i]'h) : upto f (i + 1) l = upto f i l := by
  rw [upto_step h, hf]
  apply List.ext_getElem?
  intro j
  rw [List.getElem?_set]
  by_cases e : i = j
  · subst e
    rw [if_pos rfl, if_pos (by rw [upto_length]; exact h), upto_at h]
  · rw [if_neg e]
end
def syncR (_ : Nat) (r : RPg) : RPg := ⟨r.st, r.by_, decide (r.st ≠ 0)⟩
def rSync (R : List RPg) : List RPg := upto syncR R.length R
def elig (r : RPg) : Bool := decide (r.st ≠ 0) && !r.lasts
def cnt (R : List RPg) (j : Nat) : Nat := ((R.take j).filter elig).length
def crashR (r : RPg) (t : Nat) : RPg := if t = 1 then r else ⟨t, [], false⟩
def fcrash (picks : List UInt8) (R : List RPg) (j : Nat) (r : RPg) : RPg := if elig r = true then crashR r (pickN picks (cnt R j)) else r
def rCrash (picks : List UInt8) (R : List RPg) : List RPg := rSync (upto (fcrash picks R) R.length R)
def endR (R : List RPg) : Nat → Nat
  | 0 => 0
  | n + 1 => if (R[n]?.map RPg.st) = some 0 then endR R n else n + 1
def rWhole (R : List RPg) : List (List UInt8) := (R.filter fun r => r.st == 1).map RPg.by_
def refAt (d : Dv) (j : Nat) : RPg := match d.pages[j]? with
  | some p => ⟨p.st, p.by_, decide (j < d.last) && decide (p.st ≠ 0)⟩
  | none => rZero
def refOf (d : Dv) : List RPg := (List.range d.room).map (refAt d)
theorem refOf_length (d : Dv) : (refOf d).length = d.room := by simp [refOf]
theorem refOf_get (d : Dv) (j : Nat) (h : j < d.room) : (refOf d)[j]? = some (refAt d j) := by simp [refOf, h]
theorem refOf_none (d : Dv) (j : Nat) (h : d.room ≤ j) : (refOf d)[j]? = none := List.getElem?_eq_none (by rw [refOf_length]; exact h)
theorem refAt_some {d : Dv} {j : Nat} {p : Pg} (h : d.pages[j]? = some p) : refAt d j = ⟨p.st, p.by_, decide (j < d.last) && decide (p.st ≠ 0)⟩ := by unfold refAt; rw [h]
theorem refAt_none {d : Dv} {j : Nat} (h : d.pages.length ≤ j) : refAt d j = rZero := by unfold refAt; rw [List.getElem?_eq_none h]
theorem cnt_succ (R : List RPg) (j : Nat) (h : j < R.length) : cnt R (j + 1) = cnt R j + if elig (R[j]'h) = true then 1 else 0 := by
  unfold cnt
  rw [List.take_succ_eq_append_getElem h, List.filter_append, List.length_append]
  by_cases he : elig (R[j]'h) = true
  · rw [if_pos he]; simp [he]
  · rw [if_neg he]; simp [he]
theorem cnt_le (R : List RPg) (j : Nat) : cnt R j ≤ j := by
  unfold cnt
  exact Nat.le_trans (List.length_filter_le _ _) (by rw [List.length_take]; omega)
section
variable {d : Dv}
theorem refAt_elig (h : DGood d) (j : Nat) : elig (refAt d j) = decide (d.last ≤ j ∧ j < d.pages.length) := by
  rcases Nat.lt_or_ge j d.pages.length with hj | hj
  · have e := List.getElem?_eq_getElem hj
    rw [refAt_some e]
    by_cases hl : d.last ≤ j
    · have h1 := h.whole j _ hl e
      simp [elig, h1, hl, hj, Nat.not_lt.2 hl]
    · simp only [elig]
      by_cases h0 : (d.pages[j]'hj).st = 0
      · simp [h0, hl]
      · simp [h0, hl, Nat.lt_of_not_le hl]
  · rw [refAt_none hj]
    simp [elig, rZero, Nat.not_lt.2 hj]
theorem refOf_at {j : Nat} (h : j < (refOf d).length) : (refOf d)[j] = refAt d j := by
  have := refOf_get d j (by rwa [refOf_length] at h)
  rw [List.getElem?_eq_getElem h] at this
  exact Option.some.inj this
theorem cnt_ref (h : DGood d) : ∀ j, j ≤ d.pages.length → cnt (refOf d) j = j - d.last
  | 0, _ => by simp [cnt]
  | j + 1, hj => by
    have hr := h.room
    rw [cnt_succ _ _ (by rw [refOf_length]; omega), refOf_at, refAt_elig h, cnt_ref h j (by omega)]
    by_cases hl : d.last ≤ j
    · rw [if_pos (by simp; omega)]; omega
    · rw [if_neg (by simp; omega)]; omega
theorem endR_down (h : DGood d) : ∀ n, d.pages.length ≤ n → n ≤ d.room → endR (refOf d) n = endR (refOf d) d.pages.length
  | 0, h1, _ => by
    have : d.pages.length = 0 := by omega
    rw [this]
  | n + 1, h1, h2 => by
    rcases Nat.lt_or_ge n d.pages.length with hn | hn
    · have : d.pages.length = n + 1 := by omega
      rw [this]
    · rw [endR, refOf_get d n (by omega), refAt_none hn, Option.map_some]
      rw [if_pos (by rfl)]
      exact endR_down h n hn (by omega)
theorem next_ref (h : DGood d) : endR (refOf d) (refOf d).length = d.pages.length := by
  rw [refOf_length, endR_down h _ h.room (Nat.le_refl _)]
  have hr := h.room
  rcases hl : d.pages.length with _ | m
  · rfl
  · have hm : m < d.pages.length := by omega
    have e := List.getElem?_eq_getElem hm
    have hne := h.lastOne _ (by rw [List.getLast?_eq_getElem?, hl, Nat.add_sub_cancel, e])
    rw [endR, refOf_get d m (by omega), refAt_some e, Option.map_some, if_neg (fun h' => hne (by injection h'))]
theorem push_ref (b : List UInt8) (hp : d.pages.length < d.room) (hg : DGood d) : refOf (d.push b) = (refOf d).set d.pages.length ⟨1, b, false⟩ := by
  have hl := hg.last
  rw [Dv.push_room hp]
  apply List.ext_getElem?
  intro j
  rcases Nat.lt_or_ge j d.room with hj | hj
  · rw [refOf_get { d with pages := d.pages ++ [⟨1, b⟩] } j hj, List.getElem?_set, refOf_length]
    by_cases e : d.pages.length = j
    · rw [if_pos e, if_pos (by omega)]
      rw [refAt_some (p := ⟨1, b⟩) (by show (d.pages ++ [_])[j]? = _; rw [← e, List.getElem?_append_right (Nat.le_refl _)]; simp)]
      have : ¬ j < d.last := by omega
      simp [this]
    · rw [if_neg e, refOf_get d j hj]
      rcases Nat.lt_or_ge j d.pages.length with h1 | h1
      · rw [refAt_some (List.getElem?_eq_getElem h1), refAt_some (d := { d with pages := d.pages ++ [⟨1, b⟩] }) (p := d.pages[j]) (by show (d.pages ++ [_])[j]? = _; rw [List.getElem?_append_left h1, List.getElem?_eq_getElem h1])]
      · rw [refAt_none h1, refAt_none (by simp; omega)]
  · rw [refOf_none { d with pages := d.pages ++ [⟨1, b⟩] } j hj, List.getElem?_eq_none (by rw [List.length_set, refOf_length]; exact hj)]
theorem sync_ref : refOf d.sync = rSync (refOf d) := by
  apply List.ext_getElem?
  intro j
  unfold rSync
  rw [upto_get, refOf_length]
  rcases Nat.lt_or_ge j d.room with hj | hj
  · rw [refOf_get d.sync j hj, refOf_get _ j hj, Option.map_some, if_pos hj]
    rcases Nat.lt_or_ge j d.pages.length with h1 | h1
    · rw [refAt_some (d := d.sync) (List.getElem?_eq_getElem h1), refAt_some (List.getElem?_eq_getElem h1)]
      have : j < d.sync.last := h1
      simp [syncR, this]
    · rw [refAt_none (d := d.sync) h1, refAt_none h1]
      rfl
  · rw [refOf_none d.sync j hj, refOf_none _ j hj]
    rfl
theorem wipe_ref : refOf d.wipe = List.replicate d.room rZero := by
  apply List.ext_getElem?
  intro j
  rw [List.getElem?_replicate]
  rcases Nat.lt_or_ge j d.room with hj | hj
  · rw [refOf_get d.wipe j hj, if_pos hj, refAt_none (Nat.zero_le _)]
  · rw [refOf_none d.wipe j hj, if_neg (by omega)]
theorem new_ref (n : Nat) : refOf ⟨n, [], 0⟩ = List.replicate n rZero := wipe_ref (d := ⟨n, [], 0⟩)
theorem crash_ref (h : DGood d) (picks : List UInt8) : refOf (d.crash picks) = rCrash picks (refOf d) := by
  apply List.ext_getElem?
  intro j
  have hr := h.room
  unfold rCrash rSync
  rw [upto_get, upto_get, upto_length, refOf_length]
  rcases Nat.lt_or_ge j d.room with hj | hj
  · rw [refOf_get (d.crash picks) j hj, refOf_get _ j hj, Option.map_some, Option.map_some, if_pos hj, if_pos hj]
    congr 1
    have hle := trim_le (crashI picks d.last (d.pages.length - d.last) d.pages)
    rw [crashI_length] at hle
    unfold fcrash
    rw [refAt_elig h]
    rcases Nat.lt_or_ge j d.pages.length with h1 | h1
    · have e := List.getElem?_eq_getElem h1
      rw [cnt_ref h j (by omega)]
      -- the page that stands there, when it isn't yet seen which are empty at the end
      obtain ⟨q, hq⟩ : ∃ q, (crashI picks d.last (d.pages.length - d.last) d.pages)[j]? = some q := ⟨_, List.getElem?_eq_getElem (by rw [crashI_length]; exact h1)⟩
      have hq2 := hq
      rw [crashI_get, e, Option.map_some] at hq2
      injection hq2 with hq2
      have hx : ∀ b : Bool, syncR j (if decide (d.last ≤ j ∧ j < d.pages.length) = true then crashR ⟨(d.pages[j]'h1).st, (d.pages[j]'h1).by_, b⟩ (pickN picks (j - d.last)) else ⟨(d.pages[j]'h1).st, (d.pages[j]'h1).by_, b⟩) = ⟨q.st, q.by_, decide (q.st ≠ 0)⟩ := fun b => by
        rw [← hq2]
        by_cases hl : d.last ≤ j
        · rw [if_pos (by simp; omega), if_pos (by omega)]
          unfold crashR crashP
          split <;> rfl
        · rw [if_neg (by simp; omega), if_neg (by omega)]
          rfl
      rw [refAt_some e, hx]
      rcases Nat.lt_or_ge j (trim (crashI picks d.last (d.pages.length - d.last) d.pages)).length with h2 | h2
      · have ht : (d.crash picks).pages[j]? = some q := by
          show (trim _)[j]? = _
          rw [trim_length] at h2
          rw [trim, List.getElem?_take, if_pos h2, hq]
        rw [refAt_some ht]
        have : j < (d.crash picks).last := h2
        simp [this]
      · rw [refAt_none (d := d.crash picks) h2]
        rw [trim_length] at h2
        have h0 := endN_empty _ _ j h2 (by rw [crashI_length]; exact h1)
        rw [hq, Option.map_some] at h0
        injection h0 with h0
        have hb := crashI_bare h.bare q (List.mem_of_getElem? hq) (by omega)
        rw [h0, hb]
        rfl
    · rw [refAt_none (d := d.crash picks) (Nat.le_trans hle h1), refAt_none h1, if_neg (by simp; omega)]
      rfl
  · rw [refOf_none (d.crash picks) j hj, refOf_none _ j hj]
    rfl
theorem whole_range : ∀ n, n ≤ d.room → rWhole ((refOf d).take n) = wholes (d.pages.take n)
  | 0, _ => rfl
  | n + 1, hn => by
    have hlt : n < (refOf d).length := by rw [refOf_length]; omega
    rw [List.take_succ_eq_append_getElem hlt, refOf_at]
    have ih := whole_range n (by omega)
    have ha : ∀ xs ys : List RPg, rWhole (xs ++ ys) = rWhole xs ++ rWhole ys := fun xs ys => by simp [rWhole]
    rw [ha, ih]
    rcases Nat.lt_or_ge n d.pages.length with h1 | h1
    · rw [List.take_succ_eq_append_getElem h1, wholes_append, refAt_some (List.getElem?_eq_getElem h1)]
      congr 1
      by_cases h2 : (d.pages[n]'h1).st = 1
      · simp [rWhole, wholes, h2]
      · simp [rWhole, wholes, h2]
    · rw [refAt_none h1, List.take_of_length_le h1, List.take_of_length_le (by omega)]
      simp [rWhole, rZero]
theorem whole_ref (h : DGood d) : rWhole (refOf d) = wholes d.pages := by
  have := whole_range (d := d) d.room (Nat.le_refl _)
  rwa [List.take_of_length_le (by rw [refOf_length]; exact Nat.le_refl _), List.take_of_length_le h.room] at this
end
end Go.Proofs.Ytncenfgnhamdbaa
