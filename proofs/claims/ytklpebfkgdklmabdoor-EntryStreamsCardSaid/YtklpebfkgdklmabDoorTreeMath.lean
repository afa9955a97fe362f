/-
  The document's tree as plain data: nodes by their numbers; what each call answers and leaves. Over no program.
-/
import Derived.Test.YtklpebfkgdklmabDoorRowMath
namespace Go.Proofs.YtklpebfkgdklmabDoor

/-- A node. Kind 0: there is none; 1: a directory; 2: a file. -/
structure TNode where
  kind : Nat
  links : Nat
  data : Txt
  entries : Row
abbrev Tr := Nat → TNode
def noNode : TNode := ⟨0, 0, [], []⟩
/-- The root alone. -/
def newT : Tr := fun n => if n = 0 then ⟨1, 1, [], []⟩ else noNode
def Tr.set (t : Tr) (n : Nat) (x : TNode) : Tr := fun k => if k = n then x else t k
def Tr.rows (t : Tr) (n : Nat) (es : Row) : Tr := t.set n ⟨(t n).kind, (t n).links, (t n).data, es⟩

/-- From a node on, name by name: the error's number, or the node. -/
def walk (t : Tr) : Nat → List Txt → Except Nat Nat
  | n, [] => .ok n
  | n, x :: r => if (t n).kind ≠ 1 then .error 23 else match look (t n).entries x with
    | none => .error 21
    | some k => walk t k r
def find (t : Tr) (s : Txt) : Except Nat Nat := match pathM s with
  | none => .error 20
  | some ns => walk t 0 ns
/-- The place of a new entry: its directory and its name. -/
def place (t : Tr) (s : Txt) : Except Nat (Nat × Txt) := match pathM s with
  | none => .error 20
  | some [] => .error 20
  | some (x :: r) => match walk t 0 (x :: r).dropLast with
    | .error e => .error e
    | .ok d => if (t d).kind ≠ 1 then .error 23 else match look (t d).entries ((x :: r).getLast (by simp)) with
      | some _ => .error 22
      | none => .ok (d, (x :: r).getLast (by simp))
/-- The least number that no node has. -/
def least (t : Tr) : Option Nat := (List.range 64).find? fun n => decide ((t n).kind = 0)

structure TCall where
  kind : Int
  path : Txt
  other : Txt
  off : Int
  n : Int
  data : Txt
structure TAns where
  err : Nat
  kind : Nat
  size : Nat
  links : Nat
  data : Txt
  names : List Txt
def okA : TAns := ⟨0, 0, 0, 0, [], []⟩
def errA (e : Nat) : TAns := ⟨e, 0, 0, 0, [], []⟩

/-- A file's bytes, so many: the first ones, or noughts behind. -/
def sized (b : Txt) (n : Nat) : Txt := b.take n ++ List.replicate (n - b.length) 0
/-- Bytes laid over others, from a place on. -/
def over (b : Txt) (off : Nat) (d : Txt) : Txt := b.take off ++ d ++ b.drop (off + d.length)
/-- What a file has behind a write. -/
def written (b : Txt) (off : Nat) (d : Txt) : Txt := if d = [] then b else over (sized b (max b.length (off + d.length))) off d

/-- A call that opens a node: a directory, or a file. -/
def doMake (t : Tr) (kind : Nat) (s : Txt) : TAns × Tr := match place t s with
  | .error e => (errA e, t)
  | .ok (d, x) => match least t with
    | none => (errA 27, t)
    | some n => (okA, (t.set n ⟨kind, 1, [], []⟩).rows d (put (t d).entries x n))
/-- The node of a path that isn't the root's, the directory above it, its last name. -/
def findUp (t : Tr) (s : Txt) : Except Nat (Nat × Nat × Txt) := match pathM s with
  | none => .error 20
  | some [] => .error 20
  | some (x :: r) => match walk t 0 (x :: r) with
    | .error e => .error e
    | .ok a => match walk t 0 (x :: r).dropLast with
      | .error e => .error e
      | .ok p => .ok (a, p, (x :: r).getLast (by simp))
/-- An entry goes; its node too, if that was its last one. -/
def unlinked (t : Tr) (a p : Nat) (x : Txt) : Tr :=
  (t.rows p (drop (t p).entries x)).set a (if (t a).links = 1 then noNode else ⟨(t a).kind, (t a).links - 1, (t a).data, (t a).entries⟩)
def doRmdir (t : Tr) (s : Txt) : TAns × Tr := match findUp t s with
  | .error e => (errA e, t)
  | .ok (a, p, x) => if (t a).kind ≠ 1 then (errA 23, t) else if (t a).entries ≠ [] then (errA 25, t) else (okA, unlinked t a p x)
def doUnlink (t : Tr) (s : Txt) : TAns × Tr := match findUp t s with
  | .error e => (errA e, t)
  | .ok (a, p, x) => if (t a).kind = 1 then (errA 24, t) else (okA, unlinked t a p x)
def doLink (t : Tr) (s o : Txt) : TAns × Tr := match find t s with
  | .error e => (errA e, t)
  | .ok a => if (t a).kind = 1 then (errA 24, t) else match place t o with
    | .error e => (errA e, t)
    | .ok (d, x) => (okA, (t.rows d (put (t d).entries x a)).set a ⟨(t a).kind, (t a).links + 1, (t a).data, (t a).entries⟩)
/-- An entry goes from one directory to another one. -/
def moved (t : Tr) (a p : Nat) (x : Txt) (d : Nat) (y : Txt) : Tr :=
  let u := t.rows p (drop (t p).entries x)
  u.rows d (put (u d).entries y a)
def doRename (t : Tr) (s o : Txt) : TAns × Tr := match findUp t s with
  | .error e => (errA e, t)
  | .ok (a, p, x) => if o = s then (okA, t) else if insideM o s = true then (errA 26, t) else match place t o with
    | .error e => (errA e, t)
    | .ok (d, y) => (okA, moved t a p x d y)
/-- The file of a path. -/
def findFile (t : Tr) (s : Txt) : Except Nat Nat := match find t s with
  | .error e => .error e
  | .ok a => if (t a).kind = 1 then .error 24 else .ok a
def Tr.bytes (t : Tr) (n : Nat) (b : Txt) : Tr := t.set n ⟨(t n).kind, (t n).links, b, (t n).entries⟩
def doWrite (t : Tr) (s : Txt) (off : Int) (d : Txt) : TAns × Tr := match findFile t s with
  | .error e => (errA e, t)
  | .ok a => if off < 0 ∨ 256 < d.length then (errA 1, t) else if 512 < off.toNat + d.length then (errA 27, t) else (okA, t.bytes a (written (t a).data off.toNat d))
def doRead (t : Tr) (s : Txt) (off n : Int) : TAns × Tr := match findFile t s with
  | .error e => (errA e, t)
  | .ok a => if off < 0 ∨ n < 0 ∨ 256 < n then (errA 1, t) else (⟨0, 0, 0, 0, ((t a).data.drop off.toNat).take n.toNat, []⟩, t)
def doCut (t : Tr) (s : Txt) (n : Int) : TAns × Tr := match findFile t s with
  | .error e => (errA e, t)
  | .ok a => if n < 0 then (errA 1, t) else if 512 < n then (errA 27, t) else (okA, t.bytes a (sized (t a).data n.toNat))
def doStat (t : Tr) (s : Txt) : TAns × Tr := match find t s with
  | .error e => (errA e, t)
  | .ok a => (⟨0, (t a).kind, (t a).data.length + (t a).entries.length, (t a).links, [], []⟩, t)
def doList (t : Tr) (s : Txt) : TAns × Tr := match find t s with
  | .error e => (errA e, t)
  | .ok a => if (t a).kind ≠ 1 then (errA 23, t) else (⟨0, 0, 0, 0, [], (t a).entries.map (·.1)⟩, t)
/-- What a call answers, and the tree behind it. -/
def doT (t : Tr) (c : TCall) : TAns × Tr :=
  if c.kind = 1 then doMake t 1 c.path
  else if c.kind = 2 then doRmdir t c.path
  else if c.kind = 3 then doMake t 2 c.path
  else if c.kind = 4 then doUnlink t c.path
  else if c.kind = 5 then doLink t c.path c.other
  else if c.kind = 6 then doRename t c.path c.other
  else if c.kind = 7 then doWrite t c.path c.off c.data
  else if c.kind = 8 then doRead t c.path c.off c.n
  else if c.kind = 9 then doCut t c.path c.n
  else if c.kind = 10 then doStat t c.path
  else if c.kind = 11 then doList t c.path
  else if c.kind = 12 then (okA, t)
  else (errA 1, t)
/-- What calls leave. -/
def doAll (t : Tr) (cs : List TCall) : Tr := cs.foldl (fun t c => (doT t c).2) t

section
variable {t : Tr}
theorem Tr.set_same (n : Nat) (x : TNode) : t.set n x n = x := if_pos rfl
theorem Tr.set_other {n k : Nat} (h : k ≠ n) (x : TNode) : t.set n x k = t k := if_neg h
theorem Tr.rows_entries (n : Nat) (es : Row) (k : Nat) : (t.rows n es k).entries = if k = n then es else (t k).entries := by
  unfold Tr.rows Tr.set
  split <;> rfl
theorem Tr.rows_kind (n : Nat) (es : Row) (k : Nat) : (t.rows n es k).kind = (t k).kind := by
  unfold Tr.rows Tr.set
  split
  · next h => rw [h]
  · rfl
theorem Tr.rows_links (n : Nat) (es : Row) (k : Nat) : (t.rows n es k).links = (t k).links := by
  unfold Tr.rows Tr.set
  split
  · next h => rw [h]
  · rfl
theorem Tr.rows_data (n : Nat) (es : Row) (k : Nat) : (t.rows n es k).data = (t k).data := by
  unfold Tr.rows Tr.set
  split
  · next h => rw [h]
  · rfl
end

/-! ### Errors change nothing -/
theorem doMake_err {t : Tr} {k : Nat} {s : Txt} (h : (doMake t k s).1.err ≠ 0) : (doMake t k s).2 = t := by
  unfold doMake at h ⊢
  split at h
  · rfl
  · split at h
    · rfl
    · exact absurd rfl h
theorem doRmdir_err {t : Tr} {s : Txt} (h : (doRmdir t s).1.err ≠ 0) : (doRmdir t s).2 = t := by
  unfold doRmdir at h ⊢
  split at h
  · rfl
  · split at h
    · next hh => rw [if_pos hh]
    · next hh =>
      rw [if_neg hh]
      split at h
      · next h2 => rw [if_pos h2]
      · exact absurd rfl h
theorem doUnlink_err {t : Tr} {s : Txt} (h : (doUnlink t s).1.err ≠ 0) : (doUnlink t s).2 = t := by
  unfold doUnlink at h ⊢
  split at h
  · rfl
  · split at h
    · next hh => rw [if_pos hh]
    · exact absurd rfl h
theorem doLink_err {t : Tr} {s o : Txt} (h : (doLink t s o).1.err ≠ 0) : (doLink t s o).2 = t := by
  unfold doLink at h ⊢
  split at h
  · rfl
  · split at h
    · next hh => rw [if_pos hh]
    · next hh =>
      rw [if_neg hh]
      split at h
      · rfl
      · exact absurd rfl h
theorem doRename_err {t : Tr} {s o : Txt} (h : (doRename t s o).1.err ≠ 0) : (doRename t s o).2 = t := by
  unfold doRename at h ⊢
  split at h
  · rfl
  · split at h
    · next hh => rw [if_pos hh]
    · next hh =>
      rw [if_neg hh]
      split at h
      · next h2 => rw [if_pos h2]
      · next h2 =>
        rw [if_neg h2]
        split at h
        · rfl
        · exact absurd rfl h
theorem doWrite_err {t : Tr} {s : Txt} {off : Int} {d : Txt} (h : (doWrite t s off d).1.err ≠ 0) : (doWrite t s off d).2 = t := by
  unfold doWrite at h ⊢
  split at h
  · rfl
  · split at h
    · next hh => rw [if_pos hh]
    · next hh =>
      rw [if_neg hh]
      split at h
      · next h2 => rw [if_pos h2]
      · exact absurd rfl h
theorem doCut_err {t : Tr} {s : Txt} {n : Int} (h : (doCut t s n).1.err ≠ 0) : (doCut t s n).2 = t := by
  unfold doCut at h ⊢
  split at h
  · rfl
  · split at h
    · next hh => rw [if_pos hh]
    · next hh =>
      rw [if_neg hh]
      split at h
      · next h2 => rw [if_pos h2]
      · exact absurd rfl h
theorem doRead_same (t : Tr) (s : Txt) (off n : Int) : (doRead t s off n).2 = t := by
  unfold doRead
  split
  · rfl
  · split <;> rfl
theorem doStat_same (t : Tr) (s : Txt) : (doStat t s).2 = t := by
  unfold doStat
  split <;> rfl
theorem doList_same (t : Tr) (s : Txt) : (doList t s).2 = t := by
  unfold doList
  split
  · rfl
  · split <;> rfl
/-- A call, by its kind. -/
theorem doT_cases (t : Tr) (c : TCall) (P : TAns × Tr → Prop) (h1 : c.kind = 1 → P (doMake t 1 c.path)) (h2 : c.kind = 2 → P (doRmdir t c.path)) (h3 : c.kind = 3 → P (doMake t 2 c.path))
    (h4 : c.kind = 4 → P (doUnlink t c.path)) (h5 : c.kind = 5 → P (doLink t c.path c.other)) (h6 : c.kind = 6 → P (doRename t c.path c.other)) (h7 : c.kind = 7 → P (doWrite t c.path c.off c.data))
    (h8 : c.kind = 8 → P (doRead t c.path c.off c.n)) (h9 : c.kind = 9 → P (doCut t c.path c.n)) (h10 : c.kind = 10 → P (doStat t c.path)) (h11 : c.kind = 11 → P (doList t c.path)) (h12 : c.kind = 12 → P (okA, t))
    (h : (c.kind < 1 ∨ 12 < c.kind) → P (errA 1, t)) : P (doT t c) := by
  unfold doT
  by_cases e1 : c.kind = 1
  · rw [if_pos e1]; exact h1 e1
  rw [if_neg e1]
  by_cases e2 : c.kind = 2
  · rw [if_pos e2]; exact h2 e2
  rw [if_neg e2]
  by_cases e3 : c.kind = 3
  · rw [if_pos e3]; exact h3 e3
  rw [if_neg e3]
  by_cases e4 : c.kind = 4
  · rw [if_pos e4]; exact h4 e4
  rw [if_neg e4]
  by_cases e5 : c.kind = 5
  · rw [if_pos e5]; exact h5 e5
  rw [if_neg e5]
  by_cases e6 : c.kind = 6
  · rw [if_pos e6]; exact h6 e6
  rw [if_neg e6]
  by_cases e7 : c.kind = 7
  · rw [if_pos e7]; exact h7 e7
  rw [if_neg e7]
  by_cases e8 : c.kind = 8
  · rw [if_pos e8]; exact h8 e8
  rw [if_neg e8]
  by_cases e9 : c.kind = 9
  · rw [if_pos e9]; exact h9 e9
  rw [if_neg e9]
  by_cases e10 : c.kind = 10
  · rw [if_pos e10]; exact h10 e10
  rw [if_neg e10]
  by_cases e11 : c.kind = 11
  · rw [if_pos e11]; exact h11 e11
  rw [if_neg e11]
  by_cases e12 : c.kind = 12
  · rw [if_pos e12]; exact h12 e12
  rw [if_neg e12]
  exact h (by omega)
theorem doT_err {t : Tr} {c : TCall} : (doT t c).1.err ≠ 0 → (doT t c).2 = t :=
  doT_cases t c (fun r => r.1.err ≠ 0 → r.2 = t) (fun _ => doMake_err) (fun _ => doRmdir_err) (fun _ => doMake_err) (fun _ => doUnlink_err) (fun _ => doLink_err) (fun _ => doRename_err) (fun _ => doWrite_err)
    (fun _ _ => doRead_same ..) (fun _ => doCut_err) (fun _ _ => doStat_same ..) (fun _ _ => doList_same ..) (fun _ _ => rfl) (fun _ _ => rfl)
/-- Does a kind of call change a tree? -/
def changes (k : Int) : Bool := decide (1 ≤ k ∧ k ≤ 9 ∧ k ≠ 8)
theorem doT_quiet {t : Tr} {c : TCall} (h : changes c.kind = false) : (doT t c).2 = t := by
  have h' := of_decide_eq_false h
  exact doT_cases t c (fun r => r.2 = t) (fun e => by omega) (fun e => by omega) (fun e => by omega) (fun e => by omega) (fun e => by omega) (fun e => by omega) (fun e => by omega)
    (fun _ => doRead_same ..) (fun e => by omega) (fun _ => doStat_same ..) (fun _ => doList_same ..) (fun _ => rfl) (fun _ => rfl)
end Go.Proofs.YtklpebfkgdklmabDoor
