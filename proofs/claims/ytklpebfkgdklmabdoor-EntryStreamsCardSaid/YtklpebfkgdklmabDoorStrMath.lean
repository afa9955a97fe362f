/-
  Streams of entries as plain data: which entry is ahead of which, what is gone through. (What has been laid is kept newest first.)
-/
import Derived.Test.YtklpebfkgdklmabDoorWalk
namespace Go.Proofs.YtklpebfkgdklmabDoor

/-- Where the newest entry of a stream stands; -1: nowhere. -/
def prevR : List Int → Int → Int
  | [], _ => -1
  | x :: r, s => if x = s then (r.length : Int) else prevR r s
/-- The log. -/
def logR : List Int → List TLog
  | [] => []
  | x :: r => logR r ++ [⟨1, 0, 0, 0, x, prevR r x, []⟩]
/-- The addresses of a stream, newest first. -/
def wantR (q : Int) : List Int → List Int
  | [] => []
  | x :: r => if x = q then (r.length : Int) :: wantR q r else wantR q r
theorem prevR_lt : ∀ (r : List Int) (s : Int), -1 ≤ prevR r s ∧ prevR r s < r.length
  | [], s => ⟨by simp [prevR], by simp [prevR]⟩
  | x :: r, s => by
    have ih := prevR_lt r s
    unfold prevR
    simp only [List.length_cons]
    split <;> omega
theorem logR_length : ∀ r : List Int, (logR r).length = r.length
  | [] => rfl
  | x :: r => by simp [logR, logR_length r]
theorem logR_pre : ∀ (pre r : List Int), ∃ l, logR (pre ++ r) = logR r ++ l
  | [], r => ⟨[], by simp⟩
  | x :: pre, r => by
    obtain ⟨l, h⟩ := logR_pre pre r
    exact ⟨l ++ [⟨1, 0, 0, 0, x, prevR (pre ++ r) x, []⟩], by rw [List.cons_append]; simp only [logR]; rw [h, List.append_assoc]⟩
theorem logR_at (pre r : List Int) (x : Int) : (logR (pre ++ x :: r))[r.length]? = some ⟨1, 0, 0, 0, x, prevR r x, []⟩ := by
  obtain ⟨l, h⟩ := logR_pre pre (x :: r)
  rw [h]
  show (logR r ++ [_] ++ l)[r.length]? = _
  rw [List.append_assoc, List.getElem?_append_right (by rw [logR_length]; exact Nat.le_refl _), logR_length, Nat.sub_self]
  rfl
theorem logR_pay : ∀ (r : List Int) (x : TLog), x ∈ logR r → x.pay = []
  | [], x, h => by cases h
  | y :: r, x, h => by
    rcases List.mem_append.1 h with h | h
    · exact logR_pay r x h
    · simp at h; rw [h]
/-- What the law's function reads. -/
def rdR (R : List Int) (z : Int) : Option TLog := if z < 0 ∨ (R.length : Int) ≤ z then none else (logR R)[z.toNat]?
theorem rdR_at (pre r : List Int) (x : Int) : rdR (pre ++ x :: r) r.length = some ⟨1, 0, 0, 0, x, prevR r x, []⟩ := by
  unfold rdR
  rw [if_neg (by simp; omega), Int.toNat_natCast]
  exact logR_at pre r x
theorem walk_want (R : List Int) (q : Int) : ∀ (r pre : List Int), R = pre ++ r → (walkL (rdR R) (prevR r q)).map (·.1) = wantR q r ∧ ∀ p ∈ walkL (rdR R) (prevR r q), p.2.stream = q
  | [], pre, _ => by
    have h : walkL (rdR R) (prevR [] q) = [] := walkL_neg (by simp [prevR])
    rw [h]
    exact ⟨rfl, fun p hp => by cases hp⟩
  | x :: r, pre, hR => by
    obtain ⟨ih1, ih2⟩ := walk_want R q r (pre ++ [x]) (by rw [hR]; simp)
    by_cases hx : x = q
    · have hp : prevR (x :: r) q = (r.length : Int) := by simp [prevR, hx]
      have hrd : rdR R r.length = some ⟨1, 0, 0, 0, x, prevR r x, []⟩ := by rw [hR]; exact rdR_at pre r x
      have hw := walkL_some (rd := rdR R) (z := (r.length : Int)) (by omega) hrd
      have hlt := (prevR_lt r x).2
      rw [if_neg (by simp only; omega)] at hw
      simp only at hw
      rw [hp, hw]
      have hwq : wantR q (x :: r) = (r.length : Int) :: wantR q r := by simp [wantR, hx]
      rw [hwq, hx]
      refine ⟨by rw [List.map_cons, ih1], fun p hp => ?_⟩
      rcases List.mem_cons.1 hp with rfl | hp
      · rfl
      · exact ih2 p hp
    · have hp : prevR (x :: r) q = prevR r q := by simp [prevR, hx]
      have hwq : wantR q (x :: r) = wantR q r := by simp [wantR, hx]
      rw [hp, hwq]
      exact ⟨ih1, ih2⟩
theorem wantR_nil {q : Int} {r : List Int} (h : prevR r q = -1) : wantR q r = [] := by
  have h1 := (walk_want r q r [] rfl).1
  rw [h, walkL_neg (by decide)] at h1
  exact h1.symm
theorem wantR_length (q : Int) : ∀ r : List Int, (wantR q r).length ≤ r.length
  | [] => Nat.le_refl _
  | x :: r => by
    have := wantR_length q r
    unfold wantR
    split <;> simp <;> omega
end Go.Proofs.YtklpebfkgdklmabDoor
