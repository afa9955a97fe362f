/-
  A tree with one file: what is written is read. Over no program.
-/
import Derived.Test.YtlpjbgplimlcaaaGreatDoorTreeDo
namespace Go.Proofs.YtlpjbgplimlcaaaGreatDoor

/-- The root, and in it the file f. -/
def fileT (b : Txt) : Tr := fun n => if n = 0 then ⟨1, 1, [], [([102], 1)]⟩ else if n = 1 then ⟨2, 1, b, []⟩ else noNode
theorem path_f : pathM [47, 102] = some [[102]] := by decide
theorem find_f (b : Txt) : find (fileT b) [47, 102] = .ok 1 := by
  unfold find
  rw [path_f]
  rfl
theorem findFile_f (b : Txt) : findFile (fileT b) [47, 102] = .ok 1 := by
  unfold findFile
  rw [find_f]
  rfl
theorem bytes_f (b b' : Txt) : (fileT b).bytes 1 b' = fileT b' := by
  funext n
  unfold Tr.bytes Tr.set fileT
  by_cases h1 : n = 1
  · subst h1; rfl
  · by_cases h0 : n = 0
    · subst h0; rfl
    · rw [if_neg h1, if_neg h0, if_neg h1, if_neg h0, if_neg h1]
theorem make_f (c : TCall) (hk : c.kind = 3) (hp : c.path = [47, 102]) : doT newT c = (okA, fileT []) := by
  refine doT_cases newT c (fun r => r = (okA, fileT [])) ?_ ?_ ?_ ?_ ?_ ?_ ?_ ?_ ?_ ?_ ?_ ?_ ?_
  case refine_3 =>
    intro _
    rw [hp]
    have hpl : place newT [47, 102] = .ok (0, [102]) := place_of (ns := []) path_f rfl rfl rfl
    have hl : least newT = some 1 := by rfl
    unfold doMake
    rw [hpl]
    simp only [hl]
    congr 1
    funext n
    by_cases h0 : n = 0
    · subst h0; rfl
    · by_cases h1 : n = 1
      · subst h1; rfl
      · unfold Tr.rows Tr.set fileT newT
        rw [if_neg h0, if_neg h1, if_neg h0, if_neg h0, if_neg h1]
  all_goals (intro h; omega)
theorem write_f (b : Txt) (c : TCall) (hk : c.kind = 7) (hp : c.path = [47, 102]) :
    doT (fileT b) c = if c.off < 0 ∨ 256 < c.data.length then (errA 1, fileT b) else if 512 < c.off.toNat + c.data.length then (errA 27, fileT b) else (okA, fileT (written b c.off.toNat c.data)) := by
  refine doT_cases (fileT b) c (fun r => r = _) ?_ ?_ ?_ ?_ ?_ ?_ ?_ ?_ ?_ ?_ ?_ ?_ ?_
  case refine_7 =>
    intro _
    rw [hp]
    unfold doWrite
    rw [findFile_f]
    simp only [bytes_f]
    rfl
  all_goals (intro h; omega)
theorem read_f (b : Txt) (c : TCall) (hk : c.kind = 8) (hp : c.path = [47, 102]) (h1 : 0 ≤ c.off) (h2 : 0 ≤ c.n) (h3 : c.n ≤ 256) : doT (fileT b) c = (⟨0, 0, 0, 0, (b.drop c.off.toNat).take c.n.toNat, []⟩, fileT b) := by
  refine doT_cases (fileT b) c (fun r => r = _) ?_ ?_ ?_ ?_ ?_ ?_ ?_ ?_ ?_ ?_ ?_ ?_ ?_
  case refine_8 =>
    intro _
    rw [hp]
    unfold doRead
    rw [findFile_f]
    simp only
    rw [if_neg (by omega)]
    rfl
  all_goals (intro h; omega)
theorem cut_f (b : Txt) (c : TCall) (hk : c.kind = 9) (hp : c.path = [47, 102]) (h2 : 0 ≤ c.n) (h3 : c.n ≤ 512) : doT (fileT b) c = (okA, fileT (sized b c.n.toNat)) := by
  refine doT_cases (fileT b) c (fun r => r = _) ?_ ?_ ?_ ?_ ?_ ?_ ?_ ?_ ?_ ?_ ?_ ?_ ?_
  case refine_9 =>
    intro _
    rw [hp]
    unfold doCut
    rw [findFile_f]
    simp only [bytes_f]
    rw [if_neg (by omega), if_neg (by omega)]
    rfl
  all_goals (intro h; omega)
theorem stat_f (b : Txt) (c : TCall) (hk : c.kind = 10) (hp : c.path = [47, 102]) : doT (fileT b) c = (⟨0, 2, b.length, 1, [], []⟩, fileT b) := by
  refine doT_cases (fileT b) c (fun r => r = _) ?_ ?_ ?_ ?_ ?_ ?_ ?_ ?_ ?_ ?_ ?_ ?_ ?_
  case refine_10 =>
    intro _
    rw [hp]
    unfold doStat
    rw [find_f]
    rfl
  all_goals (intro h; omega)

theorem sized_get (b : Txt) (n j : Nat) : (sized b n)[j]? = if j < n then some (b.getD j 0) else none := by
  unfold sized
  by_cases h : j < min n b.length
  · rw [List.getElem?_append_left (by rw [List.length_take]; exact h), List.getElem?_take, if_pos (by omega), if_pos (by omega), List.getD, List.getElem?_eq_getElem (by omega)]
    rfl
  · rw [List.getElem?_append_right (by rw [List.length_take]; omega), List.getElem?_replicate, List.length_take]
    by_cases h2 : j < n
    · rw [if_pos (by omega), if_pos h2, List.getD, List.getElem?_eq_none (by omega)]
      rfl
    · rw [if_neg (by omega), if_neg h2]
theorem over_get {b d : Txt} {off : Nat} (h : off + d.length ≤ b.length) (j : Nat) : (over b off d)[j]? = if off ≤ j ∧ j < off + d.length then d[j - off]? else b[j]? := by
  unfold over
  have ht : (b.take off).length = off := by rw [List.length_take]; omega
  by_cases h1 : j < off
  · rw [List.append_assoc, List.getElem?_append_left (by omega), List.getElem?_take, if_pos h1, if_neg (by omega)]
  · by_cases h2 : j < off + d.length
    · rw [List.append_assoc, List.getElem?_append_right (by omega), List.getElem?_append_left (by omega), ht, if_pos ⟨by omega, h2⟩]
    · rw [List.getElem?_append_right (by rw [List.length_append]; omega), List.length_append, ht, List.getElem?_drop, if_neg (by omega)]
      congr 1
      omega
theorem written_get {b d : Txt} {off : Nat} (hd : d ≠ []) (j : Nat) : (written b off d)[j]? = if j < max b.length (off + d.length) then some (if off ≤ j ∧ j < off + d.length then d.getD (j - off) 0 else b.getD j 0) else none := by
  unfold written
  rw [if_neg hd, over_get (by rw [sized_length]; omega), sized_get]
  by_cases h1 : off ≤ j ∧ j < off + d.length
  · rw [if_pos h1, if_pos h1, if_pos (by omega), List.getD, List.getElem?_eq_getElem (by omega)]
    rfl
  · rw [if_neg h1, if_neg h1]
/-- Noughts behind, up to a place; a byte there. -/
def reach (l : Txt) (n : Nat) : Txt := l ++ List.replicate (n + 1 - l.length) 0
theorem reach_get (l : Txt) (n j : Nat) : (reach l n)[j]? = if j < max l.length (n + 1) then some (l.getD j 0) else none := by
  unfold reach
  by_cases h : j < l.length
  · rw [List.getElem?_append_left h, if_pos (by omega), List.getD, List.getElem?_eq_getElem h]
    rfl
  · rw [List.getElem?_append_right (by omega), List.getElem?_replicate]
    by_cases h2 : j < n + 1
    · rw [if_pos (by omega), if_pos (by omega), List.getD, List.getElem?_eq_none (by omega)]
      rfl
    · rw [if_neg (by omega), if_neg (by omega)]
theorem reach_length (l : Txt) (n : Nat) : (reach l n).length = max l.length (n + 1) := by
  unfold reach
  rw [List.length_append, List.length_replicate]
  omega
theorem getD_of_get {l m : Txt} {i j : Nat} (h : l[i]? = m[j]?) : l.getD i 0 = m.getD j 0 := by rw [List.getD, List.getD, h]
/-- A byte more that is written. -/
theorem written_step (b : Txt) (off : Nat) (d : Txt) (k : Nat) (hk : k < d.length) : written b off (d.take (k + 1)) = (reach (written b off (d.take k)) (off + k)).set (off + k) d[k] := by
  have hl : (d.take (k + 1)).length = k + 1 := by rw [List.length_take]; omega
  have hl0 : (d.take k).length = k := by rw [List.length_take]; omega
  have hne : d.take (k + 1) ≠ [] := fun h => by rw [h] at hl; simp at hl
  have hwl : (written b off (d.take k)).length = if k = 0 then b.length else max b.length (off + k) := by
    unfold written
    by_cases h0 : k = 0
    · subst h0
      rw [if_pos (by simp), if_pos rfl]
    · rw [if_neg (fun h => h0 (by rw [h] at hl0; exact hl0.symm)), over_length (by rw [sized_length]; omega), sized_length, hl0, if_neg h0]
  apply List.ext_getElem?
  intro j
  have L := written_get (b := b) (off := off) hne j
  rw [hl] at L
  rw [L, List.getElem?_set, reach_length]
  by_cases hj : off + k = j
  · have c1 : j < max b.length (off + (k + 1)) := by omega
    have c2 : off ≤ j ∧ j < off + (k + 1) := by omega
    have c3 : off + k < max (written b off (d.take k)).length (off + k + 1) := by omega
    have e : j - off = k := by omega
    rw [if_pos c1, if_pos c2, if_pos hj, if_pos c3, e, List.getD, List.getElem?_take, if_pos (Nat.lt_succ_self k), List.getElem?_eq_getElem hk]
    rfl
  · rw [if_neg hj, reach_get]
    by_cases h0 : k = 0
    · subst h0
      have hw0 : written b off (d.take 0) = b := by unfold written; rw [if_pos (by simp)]
      have c0 : ¬ (off ≤ j ∧ j < off + (0 + 1)) := by omega
      rw [hw0, if_neg c0]
    · rw [if_neg h0] at hwl
      rw [hwl]
      by_cases h1 : j < max b.length (off + (k + 1))
      · have h2 : j < max (max b.length (off + k)) (off + k + 1) := by omega
        have h3 : j < max b.length (off + k) := by omega
        rw [if_pos h1, if_pos h2]
        congr 1
        have hne0 : d.take k ≠ [] := fun h => h0 (by rw [h] at hl0; exact hl0.symm)
        have hg := written_get (b := b) (off := off) hne0 j
        rw [hl0, if_pos h3] at hg
        have hr : (written b off (d.take k)).getD j 0 = if off ≤ j ∧ j < off + k then (d.take k).getD (j - off) 0 else b.getD j 0 := by
          rw [List.getD, hg]
          rfl
        rw [hr]
        by_cases h4 : off ≤ j ∧ j < off + k
        · have h5 : off ≤ j ∧ j < off + (k + 1) := by omega
          rw [if_pos h5, if_pos h4]
          apply getD_of_get
          have h6 : j - off < k + 1 := by omega
          have h7 : j - off < k := by omega
          rw [List.getElem?_take, List.getElem?_take, if_pos h6, if_pos h7]
        · have h5 : ¬ (off ≤ j ∧ j < off + (k + 1)) := by omega
          rw [if_neg h5, if_neg h4]
      · have h2 : ¬ j < max (max b.length (off + k)) (off + k + 1) := by omega
        rw [if_neg h1, if_neg h2]
theorem written_all (b : Txt) (off : Nat) (d : Txt) : written b off (d.take d.length) = written b off d := by rw [List.take_length]
theorem written_none (b : Txt) (off : Nat) (d : Txt) : written b off (d.take 0) = b := by unfold written; rw [if_pos (by simp)]
/-- What is read, piece by piece. -/
theorem read_all {b : Txt} (h : b.length ≤ 512) : (b.drop 0).take 256 ++ (b.drop 256).take 256 = b := by
  rw [List.drop_zero]
  conv => rhs; rw [← List.take_append_drop 256 b]
  congr 1
  exact List.take_of_length_le (by rw [List.length_drop]; omega)
/-- What stands at a place when all but the first bytes was cut, and came back. -/
theorem cut_back (b : Txt) {k j : Nat} (hj : j < 512) : ((sized (sized b k) 512).drop j).take 1 = [if j < k ∧ j < b.length then b.getD j 0 else 0] := by
  have hg : (sized (sized b k) 512)[j]? = some (if j < k ∧ j < b.length then b.getD j 0 else 0) := by
    rw [sized_get, if_pos hj]
    congr 1
    rw [List.getD, sized_get]
    by_cases h1 : j < k
    · rw [if_pos h1]
      by_cases h2 : j < b.length
      · rw [if_pos ⟨h1, h2⟩]; rfl
      · rw [if_neg (fun h => h2 h.2)]
        show b.getD j 0 = 0
        rw [List.getD, List.getElem?_eq_none (by omega)]
        rfl
    · rw [if_neg h1, if_neg (fun h => h1 h.1)]
      rfl
  have hlt : j < (sized (sized b k) 512).length := by rw [sized_length]; exact hj
  rw [List.drop_eq_getElem_cons hlt]
  rw [List.getElem?_eq_getElem hlt] at hg
  injection hg with hg
  rw [hg]
  rfl
end Go.Proofs.YtlpjbgplimlcaaaGreatDoor
