/-
  Every call keeps what holds of a tree; a renaming can be taken back; entries and links are counted. Over no program.
  The program's tree in memory: a map of nodes by their numbers, each directory's map of entries, each file's bytes.
  copy, between rows of bytes; max of two.
  A row of texts that the call owns: built, appended to, read. It speaks of no program.
  Rows of entries in memory: two cells each, a text and a number. It speaks of no program.
  The document's tree, as the reference holds it: one block of 64 nodes of five cells each; what is read of it.
  Paths of one name, of one name more.
  The reference's tree, changed in one node.
  The reference's drop and put: rows of entries, laid anew.
  The reference's size: so many bytes of a file.
  A tree with one file: what is written is read. Over no program.
  append onto a row of texts, as a step of a drawn region. It speaks of no program.
  The program's Changes.
  The reference's New.
-/
import Derived.Test.YtlkiaghpdjbfeaaGreatDoorPk0
import Derived.Test.YtlkiaghpdjbfeaaGreatDoorChecked
import Derived.Laws.CopyOwn
import Derived.BigFrame
import Derived.Deep.LoopGhost
import Derived.Handy
import Derived.Deep.DeepCutAuto
import Derived.Deep.RegionWith
import Derived.Deep.WholeRow
import Derived.Deep.CutRange
namespace Go.Proofs.YtlkiaghpdjbfeaaGreatDoor

theorem last_eq (x : Txt) (r : List Txt) : ∃ ns y, x :: r = ns ++ [y] ∧ (x :: r).dropLast = ns ∧ (x :: r).getLast (by simp) = y :=
  ⟨(x :: r).dropLast, (x :: r).getLast (by simp), (List.dropLast_concat_getLast (by simp)).symm, rfl, rfl⟩
theorem snoc_parts {ns : List Txt} {y : Txt} : ∃ a r, ns ++ [y] = a :: r ∧ (a :: r).dropLast = ns ∧ ∀ h, (a :: r).getLast h = y := by
  cases h : ns ++ [y] with
  | nil => simp at h
  | cons a r =>
    refine ⟨a, r, rfl, ?_, fun h' => ?_⟩
    · rw [← h]; simp
    · have : (ns ++ [y]).getLast (by simp) = y := by simp
      simp only [h] at this
      exact this

theorem place_ok {t : Tr} {s : Txt} {d : Nat} {x : Txt} (h : place t s = .ok (d, x)) : ∃ ns, pathM s = some (ns ++ [x]) ∧ walk t 0 ns = .ok d ∧ (t d).kind = 1 ∧ look (t d).entries x = none := by
  unfold place at h
  split at h
  · cases h
  · cases h
  · next y r hp =>
    split at h
    · cases h
    · next d' hd' =>
      split at h
      · cases h
      · next hk =>
        split at h
        · cases h
        · next hl =>
          obtain ⟨ns, z, h1, h2, h3⟩ := last_eq y r
          rw [h3] at h hl
          injection h with h
          injection h with h4 h5
          subst h4 h5
          exact ⟨ns, by rw [hp, h1], by rw [← h2]; exact hd', by omega, hl⟩
theorem place_of {t : Tr} {s : Txt} {d : Nat} {x : Txt} {ns : List Txt} (hp : pathM s = some (ns ++ [x])) (hw : walk t 0 ns = .ok d) (hk : (t d).kind = 1) (hl : look (t d).entries x = none) : place t s = .ok (d, x) := by
  obtain ⟨a, r, h1, h2, h3⟩ := snoc_parts (ns := ns) (y := x)
  rw [h1] at hp
  unfold place
  rw [hp]
  simp only [h2, hw, h3]
  rw [if_neg (by omega), hl]
theorem findUp_ok {t : Tr} {s : Txt} {a p : Nat} {x : Txt} (h : findUp t s = .ok (a, p, x)) : ∃ ns, pathM s = some (ns ++ [x]) ∧ walk t 0 ns = .ok p ∧ (t p).kind = 1 ∧ look (t p).entries x = some a := by
  unfold findUp at h
  split at h
  · cases h
  · cases h
  · next y r hp =>
    split at h
    · cases h
    · next a' ha' =>
      split at h
      · cases h
      · next p' hp' =>
        obtain ⟨ns, z, h1, h2, h3⟩ := last_eq y r
        rw [h3] at h
        injection h with h
        injection h with h4 h5
        injection h5 with h5 h6
        subst h4 h5 h6
        rw [h1] at ha'
        obtain ⟨m, hm, hmk, hml⟩ := walk_snoc ha'
        rw [h2] at hp'
        rw [hm] at hp'
        injection hp' with hp'
        subst hp'
        exact ⟨ns, by rw [hp, h1], hm, hmk, hml⟩
theorem findUp_of {t : Tr} {s : Txt} {a p : Nat} {x : Txt} {ns : List Txt} (hp : pathM s = some (ns ++ [x])) (hw : walk t 0 ns = .ok p) (hk : (t p).kind = 1) (hl : look (t p).entries x = some a) : findUp t s = .ok (a, p, x) := by
  have hwa := walk_snoc_ok hw hk hl
  obtain ⟨b, r, h1, h2, h3⟩ := snoc_parts (ns := ns) (y := x)
  rw [h1] at hp hwa
  unfold findUp
  rw [hp]
  simp only [hwa, h2, hw, h3]
theorem pathM_last {s : Txt} {ns : List Txt} {x : Txt} (h : pathM s = some (ns ++ [x])) : IsName x := (pathM_some h).2.2 x (by simp)
theorem least_ok {t : Tr} {n : Nat} (h : least t = some n) : (t n).kind = 0 ∧ n < 64 := by
  unfold least at h
  have h1 := List.find?_some h
  have h2 := List.mem_of_find?_eq_some h
  exact ⟨by simpa using h1, List.mem_range.1 h2⟩
theorem sized_length (b : Txt) (n : Nat) : (sized b n).length = n := by
  unfold sized
  rw [List.length_append, List.length_take, List.length_replicate]
  omega
theorem over_length {b : Txt} {off : Nat} {d : Txt} (h : off + d.length ≤ b.length) : (over b off d).length = b.length := by
  unfold over
  rw [List.length_append, List.length_append, List.length_take, List.length_drop]
  omega
theorem written_length {b : Txt} {off : Nat} {d : Txt} (hb : b.length ≤ 512) (h : off + d.length ≤ 512) : (written b off d).length ≤ 512 := by
  unfold written
  split
  · exact hb
  · rw [over_length (by rw [sized_length]; omega), sized_length]
    omega

/-- To name a directory from beneath itself is to stand inside its path. -/
theorem not_beneath {t : Tr} (g : Good t) {s o : Txt} {a p d : Nat} {x y : Txt} {ns ms : List Txt} (hs : pathM s = some (ns ++ [x])) (hn : walk t 0 ns = .ok p) (hk : (t p).kind = 1) (hl : look (t p).entries x = some a)
    (ho : pathM o = some (ms ++ [y])) (hm : walk t 0 ms = .ok d) (hd : (t d).kind = 1) (hin : insideM o s = false) : ∀ rs, walk t a rs ≠ .ok d := fun rs hrs => by
  have hwa := walk_snoc_ok hn hk hl
  have h2 : walk t 0 ((ns ++ [x]) ++ rs) = .ok d := by rw [walk_append, hwa]; exact hrs
  have h3 := g.one_way _ (Nat.le_refl _) hm h2 hd
  rw [insideM_some ho hs] at hin
  have hin := of_decide_eq_false hin
  apply hin
  rw [h3]
  refine ⟨by simp, ?_⟩
  rw [List.append_assoc (ns ++ [x]), List.take_left]

theorem doMake_good {t : Tr} (g : Good t) {k : Nat} (hk : k = 1 ∨ k = 2) (s : Txt) : Good (doMake t k s).2 := by
  unfold doMake
  split
  · exact g
  · next d x hp =>
    split
    · exact g
    · next n hn =>
      obtain ⟨ns, h1, _, h3, h4⟩ := place_ok hp
      obtain ⟨h5, h6⟩ := least_ok hn
      exact g.make hk h3 h4 (pathM_last h1) h5 h6
theorem doRmdir_good {t : Tr} (g : Good t) (s : Txt) : Good (doRmdir t s).2 := by
  unfold doRmdir
  split
  · exact g
  · next a p x hf =>
    split
    · exact g
    · split
      · exact g
      · next h =>
        obtain ⟨ns, _, _, _, hl⟩ := findUp_ok hf
        exact g.unlink hl (Classical.not_not.1 h)
theorem doUnlink_good {t : Tr} (g : Good t) (s : Txt) : Good (doUnlink t s).2 := by
  unfold doUnlink
  split
  · exact g
  · next a p x hf =>
    split
    · exact g
    · next h =>
      obtain ⟨ns, _, _, _, hl⟩ := findUp_ok hf
      have h1 := g.kinds a
      have h2 := (g.entry p _ (look_mem hl)).2.2
      exact g.unlink hl (g.file a (by have h3 : (t a).kind ≠ 0 := h2; omega)).1
theorem doLink_good {t : Tr} (g : Good t) (s o : Txt) : Good (doLink t s o).2 := by
  unfold doLink
  split
  · exact g
  · next a hf =>
    split
    · exact g
    · next h =>
      split
      · exact g
      · next d x hp =>
        obtain ⟨ms, h1, _, h3, h4⟩ := place_ok hp
        have h5 : (t a).kind ≠ 0 := by
          unfold find at hf
          split at hf
          · cases hf
          · exact g.walked (by rw [g.root.1]; omega) hf
        have h6 := g.kinds a
        exact g.link (by omega) h3 h4 (pathM_last h1)
theorem doRename_good {t : Tr} (g : Good t) (s o : Txt) : Good (doRename t s o).2 := by
  unfold doRename
  split
  · exact g
  · next a p x hf =>
    split
    · exact g
    · split
      · exact g
      · next hin =>
        split
        · exact g
        · next d y hp =>
          obtain ⟨ns, q1, q2, q3, q4⟩ := findUp_ok hf
          obtain ⟨ms, h1, h2, h3, h4⟩ := place_ok hp
          exact g.move q4 h3 h4 (pathM_last h1) fun _ => not_beneath g q1 q2 q3 q4 h1 h2 h3 (by simpa using hin)
theorem findFile_ok {t : Tr} (g : Good t) {s : Txt} {a : Nat} (h : findFile t s = .ok a) : (t a).kind = 2 := by
  unfold findFile at h
  split at h
  · cases h
  · next a' hf =>
    split at h
    · cases h
    · next hk =>
      injection h with h
      subst h
      have h5 : (t a').kind ≠ 0 := by
        unfold find at hf
        split at hf
        · cases hf
        · exact g.walked (by rw [g.root.1]; omega) hf
      have h6 := g.kinds a'
      omega
theorem doWrite_good {t : Tr} (g : Good t) (s : Txt) (off : Int) (d : Txt) : Good (doWrite t s off d).2 := by
  unfold doWrite
  split
  · exact g
  · next a hf =>
    have hk := findFile_ok g hf
    split
    · exact g
    · split
      · exact g
      · next h => exact g.filled hk (written_length (g.file a hk).2 (by omega))
theorem doCut_good {t : Tr} (g : Good t) (s : Txt) (n : Int) : Good (doCut t s n).2 := by
  unfold doCut
  split
  · exact g
  · next a hf =>
    have hk := findFile_ok g hf
    split
    · exact g
    · split
      · exact g
      · next h => exact g.filled hk (by rw [sized_length]; omega)
/-- Every call keeps what holds of a tree. -/
theorem doT_good {t : Tr} (g : Good t) (c : TCall) : Good (doT t c).2 :=
  doT_cases t c (fun r => Good r.2) (fun _ => doMake_good g (Or.inl rfl) _) (fun _ => doRmdir_good g _) (fun _ => doMake_good g (Or.inr rfl) _) (fun _ => doUnlink_good g _) (fun _ => doLink_good g _ _) (fun _ => doRename_good g _ _) (fun _ => doWrite_good g _ _ _)
    (fun _ => by rw [doRead_same]; exact g) (fun _ => doCut_good g _ _) (fun _ => by rw [doStat_same]; exact g) (fun _ => by rw [doList_same]; exact g) (fun _ => g) (fun _ => g)
theorem doAll_good (cs : List TCall) : ∀ {t : Tr}, Good t → Good (doAll t cs) := by
  induction cs with
  | nil => exact fun g => g
  | cons c cs ih => exact fun g => ih (doT_good g c)

/-! ### A renaming, and back -/
/-- A way that doesn't take an entry is there when the entry is gone, and another one there. -/
theorem walk_moved {t : Tr} {a p d : Nat} {x y : Txt} (hy : look (t d).entries y = none) (hxy : ¬ (p = d ∧ x = y)) : ∀ (us : List Txt) (n k : Nat), walk t n us = .ok k → (∀ u1 u2, us = u1 ++ x :: u2 → walk t n u1 ≠ .ok p) → walk (moved t a p x d y) n us = .ok k
  | [], _, _, h, _ => h
  | z :: r, n, k, h, hno => by
    rw [walk] at h ⊢
    rw [moved_kind]
    split at h
    · cases h
    · next hk =>
      rw [if_neg hk]
      split at h
      · cases h
      · next m hm =>
        have hne : ¬ (n = p ∧ z = x) := fun e => hno [] r (by rw [e.2]; rfl) (by rw [walk, e.1])
        have hl : look (moved t a p x d y n).entries z = some m := by
          rw [moved_entries]
          split
          · next h1 =>
            rw [look_put]
            have hzy : z ≠ y := fun e => by rw [e, h1, hy] at hm; cases hm
            rw [if_neg hzy]
            split
            · next h2 =>
              rw [look_drop, if_neg (fun e => hne ⟨h1.trans h2, e⟩), ← h2, ← h1]
              exact hm
            · rw [← h1]; exact hm
          · split
            · next h2 =>
              rw [look_drop, if_neg (fun e => hne ⟨h2, e⟩), ← h2]
              exact hm
            · exact hm
        rw [hl]
        refine walk_moved hy hxy r m k h fun u1 u2 e hw => hno (z :: u1) u2 (by rw [e]; rfl) ?_
        rw [walk, if_neg hk, hm]
        exact hw
theorem walk_file {t : Tr} {a k : Nat} {us : List Txt} (ha : (t a).kind ≠ 1) (h : walk t a us = .ok k) : us = [] ∧ k = a := by
  cases us with
  | nil =>
    rw [walk] at h
    injection h with h
    exact ⟨rfl, h.symm⟩
  | cons z r => rw [walk, if_pos ha] at h; cases h

theorem renamed {t : Tr} (g : Good t) {s o : Txt} (hne : o ≠ s) (h : (doRename t s o).1.err = 0) :
    (doStat (doRename t s o).2 o).1 = (doStat t s).1 ∧ (doStat t s).1.err = 0 ∧ (doStat (doRename t s o).2 s).1.err ≠ 0 ∧ (∀ m, ((doRename t s o).2 m).kind = (t m).kind) ∧ doRename (doRename t s o).2 o s = (okA, t) := by
  unfold doRename at h
  split at h
  · next e hf =>
    exfalso
    unfold findUp at hf
    have h : e = 0 := h
    subst h
    split at hf
    · cases hf
    · cases hf
    · have wne : ∀ us n, walk t n us ≠ .error 0 := fun us => by
        induction us with
        | nil => intro n h; rw [walk] at h; cases h
        | cons z r ih =>
          intro n h
          rw [walk] at h
          split at h
          · cases h
          · split at h
            · cases h
            · exact ih _ h
      split at hf
      · next hw => injection hf with hf; subst hf; exact wne _ _ hw
      · split at hf
        · next hw => injection hf with hf; subst hf; exact wne _ _ hw
        · cases hf
  · next a p x hf =>
    rw [if_neg hne] at h
    split at h
    · cases h
    · next hin =>
      split at h
      · next e hp =>
        exfalso
        have h : e = 0 := h
        subst h
        have wne : ∀ us n, walk t n us ≠ .error 0 := fun us => by
          induction us with
          | nil => intro n h; rw [walk] at h; cases h
          | cons z r ih =>
            intro n h
            rw [walk] at h
            split at h
            · cases h
            · split at h
              · cases h
              · exact ih _ h
        unfold place at hp
        split at hp
        · cases hp
        · cases hp
        · split at hp
          · next hw => injection hp with hp; subst hp; exact wne _ _ hw
          · split at hp
            · cases hp
            · split at hp <;> cases hp
      · next d y hp =>
        have hin : insideM o s = false := by simpa using hin
        have hr : doRename t s o = (okA, moved t a p x d y) := by
          unfold doRename
          rw [hf]
          simp only [hp]
          rw [if_neg hne, if_neg (by rw [hin]; simp)]
        rw [hr]
        simp only
        obtain ⟨ns, q1, q2, q3, q4⟩ := findUp_ok hf
        obtain ⟨ms, h1, h2, h3, h4⟩ := place_ok hp
        have hnb := not_beneath g q1 q2 q3 q4 h1 h2 h3 hin
        have hxy : ¬ (p = d ∧ x = y) := fun ⟨e1, e2⟩ => by
          rw [e1, e2, h4] at q4
          cases q4
        have had : a ≠ d := fun e => hnb [] (by rw [walk, e])
        have hap : a ≠ p := fun e => by
          obtain ⟨rk, hrk⟩ := g.rank
          have := hrk p _ (look_mem q4) (by show (t a).kind = 1; rw [e]; exact q3)
          have h' : rk p < rk a := this
          rw [e] at h'
          omega
        -- the way to the directory above is there still
        have wp : walk (moved t a p x d y) 0 ns = .ok p := walk_moved h4 hxy ns 0 p q2 fun u1 u2 e hw => by
          have := g.one_way _ (Nat.le_refl _) hw q2 q3
          rw [this] at e
          have := congrArg List.length e
          simp at this
        have wd : walk (moved t a p x d y) 0 ms = .ok d := walk_moved h4 hxy ms 0 d h2 fun u1 u2 e hw => by
          have hu := g.one_way _ (Nat.le_refl _) hw q2 q3
          rw [e, hu, walk_append, q2] at h2
          have h2 : walk t p (x :: u2) = .ok d := h2
          rw [walk, if_neg (by omega), q4] at h2
          exact hnb u2 h2
        have kd : (moved t a p x d y d).kind = 1 := by rw [moved_kind]; exact h3
        have kp : (moved t a p x d y p).kind = 1 := by rw [moved_kind]; exact q3
        have ld : look (moved t a p x d y d).entries y = some a := by
          rw [moved_entries, if_pos rfl, look_put, if_pos rfl]
        have lp : look (moved t a p x d y p).entries x = none := by
          rw [moved_entries]
          split
          · next e =>
            rw [look_put, if_neg (fun e' => hxy ⟨e, e'⟩), if_pos e.symm, look_drop, if_pos rfl]
          · rw [if_pos rfl, look_drop, if_pos rfl]
        have fo : find (moved t a p x d y) o = .ok a := by
          unfold find
          rw [h1]
          exact walk_snoc_ok wd kd ld
        have fs : find t s = .ok a := by
          unfold find
          rw [q1]
          exact walk_snoc_ok q2 q3 q4
        have ea : (moved t a p x d y a).entries = (t a).entries := by
          rw [moved_entries, if_neg had, if_neg hap]
        refine ⟨?_, ?_, ?_, fun m => moved_kind .., ?_⟩
        · unfold doStat
          rw [fo, fs]
          simp only [moved_kind, moved_links, moved_data, ea]
        · unfold doStat
          rw [fs]
        · have fg : find (moved t a p x d y) s = .error 21 := by
            unfold find
            rw [q1]
            show walk _ 0 (ns ++ [x]) = _
            rw [walk_append, wp]
            show walk _ p [x] = _
            rw [walk, if_neg (by omega), lp]
          unfold doStat
          rw [fg]
          show (21 : Nat) ≠ 0
          omega
        · have hin2 : insideM s o = false := by
            rw [insideM_some q1 h1]
            refine decide_eq_false fun ⟨hlt, htk⟩ => ?_
            have e : (ns ++ [x]) = (ms ++ [y]) ++ (ns ++ [x]).drop (ms ++ [y]).length := by
              conv => lhs; rw [← List.take_append_drop (ms ++ [y]).length (ns ++ [x])]
              rw [htk]
            have hw := walk_snoc_ok q2 q3 q4
            rw [e, walk_append] at hw
            split at hw
            · cases hw
            · next m hm =>
              obtain ⟨m', hm', _, hl'⟩ := walk_snoc hm
              rw [h2] at hm'
              injection hm' with hm'
              rw [← hm', h4] at hl'
              cases hl'
          have f1 := findUp_of h1 wd kd ld
          have f2 := place_of q1 wp kp lp
          unfold doRename
          rw [f1]
          simp only [f2]
          rw [if_neg (fun e => hne e.symm), if_neg (by rw [hin2]; simp)]
          congr 1
          funext m
          have hE : (moved (moved t a p x d y) a d y p x m).entries = (t m).entries := by
            rw [moved_entries]
            by_cases hpd : p = d
            · subst hpd
              rw [if_pos rfl]
              by_cases hmp : m = p
              · subst hmp
                rw [if_pos rfl, moved_entries, if_pos rfl, if_pos rfl, drop_put (drop_rising (g.rising m) x) (by rw [look_drop]; split; rfl; exact h4), put_drop (g.rising m) q4]
              · rw [if_neg hmp, if_neg hmp, moved_entries, if_neg hmp, if_neg hmp]
            · rw [if_neg hpd]
              by_cases hmp : m = p
              · subst hmp
                rw [if_pos rfl, moved_entries, if_neg hpd, if_pos rfl, put_drop (g.rising m) q4]
              · rw [if_neg hmp]
                by_cases hmd : m = d
                · subst hmd
                  rw [if_pos rfl, moved_entries, if_pos rfl, if_neg (fun e => hpd e.symm), drop_put (g.rising m) h4]
                · rw [if_neg hmd, moved_entries, if_neg hmd, if_neg hmp]
          have hK : (moved (moved t a p x d y) a d y p x m).kind = (t m).kind := by rw [moved_kind, moved_kind]
          have hL : (moved (moved t a p x d y) a d y p x m).links = (t m).links := by rw [moved_links, moved_links]
          have hD : (moved (moved t a p x d y) a d y p x m).data = (t m).data := by rw [moved_data, moved_data]
          cases hu : moved (moved t a p x d y) a d y p x m with
          | mk k l dd ee =>
            cases ht : t m with
            | mk k2 l2 dd2 ee2 =>
              rw [hu, ht] at hE hK hL hD
              simp only at hE hK hL hD
              subst hE hK hL hD
              rfl

/-! ### As many links as entries, and one -/
theorem sum_add (f g : Nat → Nat) : ∀ N, ((List.range N).map fun m => f m + g m).sum = ((List.range N).map f).sum + ((List.range N).map g).sum := by
  intro N
  induction N with
  | zero => rfl
  | succ N ih =>
    simp only [List.range_succ, List.map_append, List.map_cons, List.map_nil, List.sum_append, List.sum_cons, List.sum_nil, Nat.add_zero] at ih ⊢
    omega
theorem sum_swap (f : Nat → Nat → Nat) (N : Nat) : ∀ M, ((List.range M).map fun m => ((List.range N).map fun n => f m n).sum).sum = ((List.range N).map fun n => ((List.range M).map fun m => f m n).sum).sum := by
  intro M
  induction M with
  | zero =>
    simp only [List.range_zero, List.map_nil, List.sum_nil]
    induction N with
    | zero => rfl
    | succ N ih => simp only [List.range_succ, List.map_append, List.map_cons, List.map_nil, List.sum_append, List.sum_cons, List.sum_nil, Nat.add_zero]; exact ih
  | succ M ih =>
    have e : ((List.range N).map fun n => ((List.range (M + 1)).map fun m => f m n).sum).sum = ((List.range N).map fun n => ((List.range M).map fun m => f m n).sum + f M n).sum := by
      congr 1
      refine List.map_congr_left fun n _ => ?_
      simp only [List.range_succ, List.map_append, List.map_cons, List.map_nil, List.sum_append, List.sum_cons, List.sum_nil, Nat.add_zero]
    rw [e, sum_add, ← ih]
    simp only [List.range_succ, List.map_append, List.map_cons, List.map_nil, List.sum_append, List.sum_cons, List.sum_nil, Nat.add_zero]
theorem refs_total (es : Row) (N : Nat) (h : ∀ e ∈ es, e.2 < N) : ((List.range N).map fun n => refs es n).sum = es.length := by
  induction es with
  | nil =>
    have : ∀ M, ((List.range M).map fun n => refs [] n).sum = 0 := fun M => by
      induction M with
      | zero => rfl
      | succ M ih => simp only [List.range_succ, List.map_append, List.map_cons, List.map_nil, List.sum_append, List.sum_cons, List.sum_nil, Nat.add_zero]; rw [ih]; rfl
    exact this N
  | cons e r ih =>
    have e1 : (fun n => refs (e :: r) n) = fun n => refs r n + if e.2 = n then 1 else 0 := by
      funext n
      unfold refs
      rw [List.countP_cons]
      simp
    rw [e1, sum_add, ih fun x hx => h x (by simp [hx]), List.length_cons]
    have one : ∀ M, e.2 < M → ((List.range M).map fun n => if e.2 = n then 1 else 0).sum = 1 := by
      have zero : ∀ M, M ≤ e.2 → ((List.range M).map fun n => if e.2 = n then 1 else 0).sum = 0 := fun M => by
        induction M with
        | zero => intro _; rfl
        | succ M ih =>
          intro hM
          simp only [List.range_succ, List.map_append, List.map_cons, List.map_nil, List.sum_append, List.sum_cons, List.sum_nil, Nat.add_zero]
          rw [ih (by omega), if_neg (by omega)]
      intro M
      induction M with
      | zero => intro h; omega
      | succ M ih =>
        intro hM
        simp only [List.range_succ, List.map_append, List.map_cons, List.map_nil, List.sum_append, List.sum_cons, List.sum_nil, Nat.add_zero]
        by_cases he : e.2 = M
        · rw [if_pos he, zero M (by omega)]
        · rw [if_neg he, ih (by omega)]
    rw [one N (h e (by simp))]
theorem Good.counted {t : Tr} (g : Good t) : ((List.range 64).map fun n => (t n).links).sum = ((List.range 64).map fun n => (t n).entries.length).sum + 1 := by
  have e1 : ∀ m, m < 64 → (t m).entries.length = ((List.range 64).map fun n => refs (t m).entries n).sum := fun m _ =>
    (refs_total _ 64 fun e he => g.lt (g.entry m e he).2.2).symm
  have e2 : ((List.range 64).map fun m => (t m).entries.length).sum = ((List.range 64).map fun n => allRefs t n).sum := by
    have : ((List.range 64).map fun m => (t m).entries.length) = (List.range 64).map fun m => ((List.range 64).map fun n => refs (t m).entries n).sum :=
      List.map_congr_left fun m hm => e1 m (List.mem_range.1 hm)
    rw [this, sum_swap]
    rfl
  have h0 : allRefs t 0 = 0 := g.zero_refs (Or.inr rfl)
  have := (sum_change (fun n => (t n).links) (fun n => allRefs t n) 0 (fun m hm => by
    by_cases hk : (t m).kind = 0
    · rw [g.void m hk]
      show (0 : Nat) = allRefs t m
      rw [g.zero_refs (Or.inl hk)]
    · exact (g.count m hm hk).1.symm) 64).2 (by omega)
  simp only [g.root.2, h0] at this
  omega
end Go.Proofs.YtlkiaghpdjbfeaaGreatDoor

namespace Go.Proofs.YtlkiaghpdjbfeaaGreatDoor
open Go.RowKit Go.Maps

/-- Where a tree's parts lie. -/
structure Lay where
  tb : Nat
  mb : Nat
  nb : Nat → Nat
  eb : Nat → Nat
  dv : Nat → Value
/-- What the map of nodes gives. -/
def nodeF (L : Lay) (t : Tr) : Lit → Option Value
  | .int _ z => if 0 ≤ z ∧ (t z.toNat).kind ≠ 0 then some (.pointer (some ⟨L.nb z.toNat, 0, none⟩)) else none
  | _ => none
/-- A number as a value. -/
def numV (k : Nat) : Value := .int .i64 (k : Int)
/-- What a directory's map of entries gives. -/
def dirF (es : Row) : Lit → Option Value
  | .string x => (look es x).map numV
  | _ => none
def entV (L : Lay) (t : Tr) (n : Nat) : Value := if (t n).kind = 1 then .map (some (L.eb n)) else .map none

structure TreeAt (w : World) (L : Lay) (N : Nat) (t : Tr) : Prop where
  tree : w.heap[L.tb]? = some (.cells #[.map (some L.mb)] 52)
  map : MapV Tryz.prog 3 w L.mb N (nodeF L t)
  node : ∀ n, (t n).kind ≠ 0 → w.heap[L.nb n]? = some (.cells #[.int .i64 ((t n).kind : Int), .int .i64 ((t n).links : Int), entV L t n, L.dv n] 72)
  dir : ∀ n, (t n).kind = 1 → MapV Tryz.prog 9 w (L.eb n) N (dirF (t n).entries)
  data : ∀ n, (t n).kind ≠ 0 → Own 5 w (L.dv n) (t n).data
  nbi : ∀ n m, (t n).kind ≠ 0 → (t m).kind ≠ 0 → L.nb n = L.nb m → n = m
  ebi : ∀ n m, (t n).kind = 1 → (t m).kind = 1 → L.eb n = L.eb m → n = m
  ebm : ∀ n, (t n).kind = 1 → L.eb n ≠ L.mb
  dvi : ∀ n m, (t n).kind ≠ 0 → (t m).kind ≠ 0 → ∀ k, (L.dv n).ownBlock = some k → (L.dv m).ownBlock = some k → n = m
/-- The blocks that a tree lies in. -/
def Foot (L : Lay) (t : Tr) (k : Nat) : Prop := k = L.tb ∨ k = L.mb ∨ ∃ n, (t n).kind ≠ 0 ∧ (k = L.nb n ∨ ((t n).kind = 1 ∧ k = L.eb n) ∨ (L.dv n).ownBlock = some k)

theorem own_heap {E : TypeId} {w : World} {v : Value} {l : List UInt8} {k : Nat} (h : Own E w v l) (hk : v.ownBlock = some k) : ∃ cs, w.heap[k]? = some (.cells cs E (0, 0)) := by
  rcases h.2 with ⟨rfl, _⟩ | ⟨g, cap, cur, rfl, _, hh, _⟩
  · simp [Value.ownBlock] at hk
  · have : g = k := by simpa [Value.ownBlock] using hk
    subst this
    exact ⟨_, hh⟩
theorem dir_look {t : Tr} {n : Nat} (x : Txt) : dirF (t n).entries (.string x) = (look (t n).entries x).map numV := rfl
theorem upd_dirF (es es' : Row) (x : Txt) (v : Option Nat) (hs : look es' x = v) (ho : ∀ y, y ≠ x → look es' y = look es y) : dirF es' = upd (dirF es) (.string x) (v.map numV) := by
  funext l
  by_cases e : l = .string x
  · subst e
    rw [upd_same]
    show (look es' x).map _ = _
    rw [hs]
  · rw [upd_other _ e]
    cases l <;> try rfl
    rename_i y
    show (look es' y).map _ = (look es y).map _
    rw [ho y fun h => e (by rw [h])]
theorem wf_node {n : Nat} (h : n < 1000000) : (Lit.int .i64 (n : Int)).wf = true := WalkArith.wf_i64 (by omega)

namespace TreeAt
variable {w w' : World} {L : Lay} {N : Nat} {t : Tr}
theorem mono (h : TreeAt w L N t) {N' : Nat} (hN : N ≤ N') : TreeAt w L N' t :=
  { h with map := h.map.mono hN, dir := fun n hn => (h.dir n hn).mono hN }
theorem lt (h : TreeAt w L N t) {k : Nat} (hk : Foot L t k) : k < w.heap.size := by
  rcases hk with rfl | rfl | ⟨n, hn, rfl | ⟨hd, rfl⟩ | hv⟩
  · exact (Array.getElem?_eq_some_iff.1 h.tree).1
  · exact h.map.lt
  · exact (Array.getElem?_eq_some_iff.1 (h.node n hn)).1
  · exact (h.dir n hd).lt
  · exact (h.data n hn).lt k hv
theorem kept {S : Nat → Prop} (h : TreeAt w L N t) (k : Keep S w w') (hS : ∀ b, Foot L t b → ¬ S b) : TreeAt w' L N t where
  tree := (k.block _ (h.lt (.inl rfl)) (hS _ (.inl rfl))).trans h.tree
  map := h.map.kept k (hS _ (.inr (.inl rfl)))
  node := fun n hn => (k.block _ (h.lt (.inr (.inr ⟨n, hn, .inl rfl⟩))) (hS _ (.inr (.inr ⟨n, hn, .inl rfl⟩)))).trans (h.node n hn)
  dir := fun n hn => (h.dir n hn).kept k (hS _ (.inr (.inr ⟨n, by omega, .inr (.inl ⟨hn, rfl⟩)⟩)))
  data := fun n hn => (h.data n hn).kept k fun b hb => hS _ (.inr (.inr ⟨n, hn, .inr (.inr hb)⟩))
  nbi := h.nbi
  ebi := h.ebi
  ebm := h.ebm
  dvi := h.dvi
theorem far (h : TreeAt w L N t) (k : KF w w') : TreeAt w' L N t := h.kept k fun _ _ h => h
theorem drew (h : TreeAt w L N t) (n : Nat) : TreeAt (w.drewN n) L N t := h.far ((KF.refl w).drewN n)
/-- Cells that the tree's parts hold. -/
theorem cell_tree (h : TreeAt w L N t) : w.cell? ⟨L.tb, 0, none⟩ = some (.map (some L.mb)) := by simp [World.cell?, h.tree]
theorem cell_kind (h : TreeAt w L N t) {n : Nat} (hn : (t n).kind ≠ 0) : w.cell? ⟨L.nb n, 0, none⟩ = some (.int .i64 ((t n).kind : Int)) := by simp [World.cell?, h.node n hn]
theorem cell_links (h : TreeAt w L N t) {n : Nat} (hn : (t n).kind ≠ 0) : w.cell? ⟨L.nb n, 1, none⟩ = some (.int .i64 ((t n).links : Int)) := by simp [World.cell?, h.node n hn]
theorem cell_ents (h : TreeAt w L N t) {n : Nat} (hn : (t n).kind ≠ 0) : w.cell? ⟨L.nb n, 2, none⟩ = some (entV L t n) := by simp [World.cell?, h.node n hn]
theorem cell_dir (h : TreeAt w L N t) {n : Nat} (hn : (t n).kind = 1) : w.cell? ⟨L.nb n, 2, none⟩ = some (.map (some (L.eb n))) := by
  rw [h.cell_ents (by omega), entV, if_pos hn]
theorem cell_data (h : TreeAt w L N t) {n : Nat} (hn : (t n).kind ≠ 0) : w.cell? ⟨L.nb n, 3, none⟩ = some (L.dv n) := by simp [World.cell?, h.node n hn]
/-- Look-ups. -/
theorem zero_ptr (w : World) : (zeroValue 48).run Tryz.prog w = .ok (.pointer none) w := by kernel_rfl
theorem zero_int (w : World) : (zeroValue 3).run Tryz.prog w = .ok (.int .i64 0) w := by kernel_rfl
theorem int_law : Keyed Tryz.prog 3 := int_keyed Tryz.underlying3
theorem str_law : Keyed Tryz.prog 9 := string_keyed Tryz.underlying9
theorem look_node (h : TreeAt w L N t) {n : Nat} (hn : n < 1000000) : (Instr.lookup 50 (.map (some L.mb)) (.int .i64 (n : Int)) false).run Tryz.prog w =
    .ok (if (t n).kind ≠ 0 then .pointer (some ⟨L.nb n, 0, none⟩) else .pointer none) w := by
  rw [h.map.look int_law Tryz.underlying50 (zero_ptr w) (keyOf_int_mk Tryz.underlying3 (wf_node hn))]
  simp only [nodeF, Int.toNat_natCast]
  by_cases hk : (t n).kind = 0
  · simp [hk]
  · simp [hk]
theorem look_yes (h : TreeAt w L N t) {n : Nat} (hn : n < 1000000) (hk : (t n).kind ≠ 0) : (Instr.lookup 50 (.map (some L.mb)) (.int .i64 (n : Int)) false).run Tryz.prog w = .ok (.pointer (some ⟨L.nb n, 0, none⟩)) w := by
  rw [h.look_node hn, if_pos hk]
theorem look_name (h : TreeAt w L N t) {n : Nat} (hn : (t n).kind = 1) {x : Txt} (hx : x.length ≤ maxLen) : (Instr.lookup 70 (.map (some (L.eb n))) (.string (ba x)) true).run Tryz.prog w =
    .ok (.tuple #[.int .i64 (((look (t n).entries x).getD 0 : Nat) : Int), .bool (look (t n).entries x).isSome]) w := by
  rw [(h.dir n hn).look_ok str_law Tryz.underlying70 (zero_int w) (Go.WideMaps.keyOf_string_mk Tryz.underlying9 (by rw [ba_size]; exact hx))]
  show Result.ok (Value.tuple #[(dirF (t n).entries (.string x)).getD _, .bool (dirF (t n).entries (.string x)).isSome]) w = _
  rw [dir_look]
  cases look (t n).entries x <;> rfl
/-- Which blocks are which. -/
theorem nb_ne_tb (h : TreeAt w L N t) {n : Nat} (hn : (t n).kind ≠ 0) : L.nb n ≠ L.tb := fun e => by
  have h1 := h.node n hn
  rw [e, h.tree] at h1
  injection h1 with h1
  injection h1 with _ h1
  exact absurd h1 (by decide)
theorem nb_ne_map (h : TreeAt w L N t) {n b : Nat} (hn : (t n).kind ≠ 0) {es : Array MapEntry} {c : Nat} (hb : w.heap[b]? = some (.map es c)) : L.nb n ≠ b := fun e => by
  have h1 := h.node n hn
  rw [e, hb] at h1
  injection h1 with h1
  cases h1
theorem nb_ne_mb (h : TreeAt w L N t) {n : Nat} (hn : (t n).kind ≠ 0) : L.nb n ≠ L.mb := by
  obtain ⟨es, c, hb⟩ := h.map.heap
  exact h.nb_ne_map hn hb
theorem nb_ne_eb (h : TreeAt w L N t) {n m : Nat} (hn : (t n).kind ≠ 0) (hm : (t m).kind = 1) : L.nb n ≠ L.eb m := by
  obtain ⟨es, c, hb⟩ := (h.dir m hm).heap
  exact h.nb_ne_map hn hb
theorem dv_ne_nb (h : TreeAt w L N t) {n m : Nat} (hn : (t n).kind ≠ 0) (hm : (t m).kind ≠ 0) : (L.dv n).ownBlock ≠ some (L.nb m) := fun e => by
  obtain ⟨cs, hb⟩ := own_heap (h.data n hn) e
  rw [h.node m hm] at hb
  injection hb with hb
  injection hb with _ hb
  exact absurd hb (by decide)
theorem dv_ne_tb (h : TreeAt w L N t) {n : Nat} (hn : (t n).kind ≠ 0) : (L.dv n).ownBlock ≠ some L.tb := fun e => by
  obtain ⟨cs, hb⟩ := own_heap (h.data n hn) e
  rw [h.tree] at hb
  injection hb with hb
  injection hb with _ hb
  exact absurd hb (by decide)
theorem dv_ne_map (h : TreeAt w L N t) {n b : Nat} (hn : (t n).kind ≠ 0) {es : Array MapEntry} {c : Nat} (hb : w.heap[b]? = some (.map es c)) : (L.dv n).ownBlock ≠ some b := fun e => by
  obtain ⟨cs, hb'⟩ := own_heap (h.data n hn) e
  rw [hb] at hb'
  injection hb' with hb'
  cases hb'
theorem dv_ne_mb (h : TreeAt w L N t) {n : Nat} (hn : (t n).kind ≠ 0) : (L.dv n).ownBlock ≠ some L.mb := by
  obtain ⟨es, c, hb⟩ := h.map.heap
  exact h.dv_ne_map hn hb
theorem dv_ne_eb (h : TreeAt w L N t) {n m : Nat} (hn : (t n).kind ≠ 0) (hm : (t m).kind = 1) : (L.dv n).ownBlock ≠ some (L.eb m) := by
  obtain ⟨es, c, hb⟩ := (h.dir m hm).heap
  exact h.dv_ne_map hn hb
theorem tb_ne_mb (h : TreeAt w L N t) : L.tb ≠ L.mb := fun e => by
  obtain ⟨es, c, hb⟩ := h.map.heap
  rw [← e, h.tree] at hb
  injection hb with hb
  cases hb
theorem tb_ne_eb (h : TreeAt w L N t) {m : Nat} (hm : (t m).kind = 1) : L.tb ≠ L.eb m := fun e => by
  obtain ⟨es, c, hb⟩ := (h.dir m hm).heap
  rw [← e, h.tree] at hb
  injection hb with hb
  cases hb

/-- A node's links or bytes have turned. -/
theorem node_turn (h : TreeAt w L N t) {a : Nat} (ha : (t a).kind ≠ 0) (k : Keep (fun b => b = L.nb a) w w') (links : Nat) (data : Txt) (v : Value)
    (hb : w'.heap[L.nb a]? = some (.cells #[.int .i64 ((t a).kind : Int), .int .i64 (links : Int), entV L t a, v] 72)) (hv : Own 5 w' v data)
    (hi : ∀ m, m ≠ a → (t m).kind ≠ 0 → ∀ b, v.ownBlock = some b → (L.dv m).ownBlock ≠ some b) :
    TreeAt w' { L with dv := fun n => if n = a then v else L.dv n } N (t.set a ⟨(t a).kind, links, data, (t a).entries⟩) := by
  have hkind : ∀ n, ((t.set a ⟨(t a).kind, links, data, (t a).entries⟩) n).kind = (t n).kind := fun n => by
    unfold Tr.set
    split
    · next e => rw [e]
    · rfl
  have hents : ∀ n, ((t.set a ⟨(t a).kind, links, data, (t a).entries⟩) n).entries = (t n).entries := fun n => by
    unfold Tr.set
    split
    · next e => rw [e]
    · rfl
  have hent : ∀ n, entV { L with dv := fun n => if n = a then v else L.dv n } (t.set a ⟨(t a).kind, links, data, (t a).entries⟩) n = entV L t n := fun n => by
    unfold entV
    rw [hkind]
  constructor
  · exact (k.block _ (h.lt (.inl rfl)) fun e => h.nb_ne_tb ha e.symm).trans h.tree
  · refine (h.map.kept k fun e => h.nb_ne_mb ha e.symm).congr fun x xl hx => ?_
    obtain ⟨z, _, rfl, _⟩ := Maps.keyOf_i64 Tryz.underlying3 hx
    simp only [nodeF, hkind]
  · intro n hn
    rw [hkind] at hn
    rw [hent, hkind]
    by_cases e : n = a
    · subst e
      simp only [if_true, Tr.set_same]
      exact hb
    · simp only [if_neg e, Tr.set_other e]
      exact (k.block _ (h.lt (.inr (.inr ⟨n, hn, .inl rfl⟩))) fun e' => e (h.nbi n a hn ha e')).trans (h.node n hn)
  · intro n hn
    rw [hkind] at hn
    rw [hents]
    exact (h.dir n hn).kept k fun e => h.nb_ne_eb ha hn e.symm
  · intro n hn
    rw [hkind] at hn
    by_cases e : n = a
    · subst e
      simp only [if_true, Tr.set_same]
      exact hv
    · simp only [if_neg e, Tr.set_other e]
      exact (h.data n hn).kept k fun b hb' e' => h.dv_ne_nb hn ha (by rw [hb', e'])
  · intro n m hn hm
    rw [hkind] at hn hm
    exact h.nbi n m hn hm
  · intro n m hn hm
    rw [hkind] at hn hm
    exact h.ebi n m hn hm
  · intro n hn
    rw [hkind] at hn
    exact h.ebm n hn
  · intro n m hn hm b h1 h2
    rw [hkind] at hn hm
    by_cases e : n = a
    · by_cases e' : m = a
      · rw [e, e']
      · subst e
        simp only [if_true, if_neg e'] at h1 h2
        exact absurd h2 (hi m e' hm b h1)
    · by_cases e' : m = a
      · subst e'
        simp only [if_true, if_neg e] at h1 h2
        exact absurd h1 (hi n e hn b h2)
      · simp only [if_neg e, if_neg e'] at h1 h2
        exact h.dvi n m hn hm b h1 h2
/-- A directory's entries have turned. -/
theorem dir_turn (h : TreeAt w L N t) {d : Nat} (hd : (t d).kind = 1) (k : Keep (fun b => b = L.eb d) w w') {N' : Nat} (hN : N ≤ N') (es : Row) (hm : MapV Tryz.prog 9 w' (L.eb d) N' (dirF es)) : TreeAt w' L N' (t.rows d es) := by
  constructor
  · exact (k.block _ (h.lt (.inl rfl)) (h.tb_ne_eb hd)).trans h.tree
  · refine ((h.map.kept k fun e => h.ebm d hd e.symm).mono hN).congr fun x xl hx => ?_
    obtain ⟨z, _, rfl, _⟩ := Maps.keyOf_i64 Tryz.underlying3 hx
    simp only [nodeF, Tr.rows_kind]
  · intro n hn
    rw [Tr.rows_kind] at hn
    have : entV L (t.rows d es) n = entV L t n := by unfold entV; rw [Tr.rows_kind]
    rw [this, Tr.rows_kind, Tr.rows_links]
    exact (k.block _ (h.lt (.inr (.inr ⟨n, hn, .inl rfl⟩))) (h.nb_ne_eb hn hd)).trans (h.node n hn)
  · intro n hn
    rw [Tr.rows_kind] at hn
    rw [Tr.rows_entries]
    by_cases e : n = d
    · subst e
      rw [if_pos rfl]
      exact hm
    · rw [if_neg e]
      exact ((h.dir n hn).kept k fun e' => e (h.ebi n d hn hd e')).mono hN
  · intro n hn
    rw [Tr.rows_kind] at hn
    rw [Tr.rows_data]
    exact (h.data n hn).kept k fun b hb e => h.dv_ne_eb hn hd (by rw [hb, e])
  · intro n m hn hm
    rw [Tr.rows_kind] at hn hm
    exact h.nbi n m hn hm
  · intro n m hn hm
    rw [Tr.rows_kind] at hn hm
    exact h.ebi n m hn hm
  · intro n hn
    rw [Tr.rows_kind] at hn
    exact h.ebm n hn
  · intro n m hn hm
    rw [Tr.rows_kind] at hn hm
    exact h.dvi n m hn hm
/-- A node has gone. -/
theorem gone (h : TreeAt w L N t) (a : Nat) (k : Keep (fun b => b = L.mb) w w') (hm : MapV Tryz.prog 3 w' L.mb N (upd (nodeF L t) (.int .i64 (a : Int)) none)) : TreeAt w' L N (t.set a noNode) := by
  have hk : ∀ n, ((t.set a noNode) n).kind ≠ 0 → n ≠ a ∧ (t n).kind ≠ 0 := fun n hn => by
    by_cases e : n = a
    · subst e; rw [Tr.set_same] at hn; exact absurd rfl hn
    · rw [Tr.set_other e] at hn; exact ⟨e, hn⟩
  have hk1 : ∀ n, ((t.set a noNode) n).kind = 1 → n ≠ a ∧ (t n).kind = 1 := fun n hn => by
    have := (hk n (by omega)).1
    rw [Tr.set_other this] at hn
    exact ⟨this, hn⟩
  constructor
  · exact (k.block _ (h.lt (.inl rfl)) h.tb_ne_mb).trans h.tree
  · refine hm.congr fun x xl hx => ?_
    obtain ⟨z, _, rfl, _⟩ := Maps.keyOf_i64 Tryz.underlying3 hx
    by_cases e : z = (a : Int)
    · subst e
      rw [upd_same]
      simp [nodeF, Tr.set_same, noNode]
    · rw [upd_other _ fun he => e (by injection he)]
      simp only [nodeF]
      by_cases hz : 0 ≤ z
      · rw [Tr.set_other (by omega)]
      · rw [if_neg fun hh => hz hh.1, if_neg fun hh => hz hh.1]
  · intro n hn
    obtain ⟨hne, hn⟩ := hk n hn
    have : entV L (t.set a noNode) n = entV L t n := by unfold entV; rw [Tr.set_other hne]
    rw [this, Tr.set_other hne]
    exact (k.block _ (h.lt (.inr (.inr ⟨n, hn, .inl rfl⟩))) (h.nb_ne_mb hn)).trans (h.node n hn)
  · intro n hn
    obtain ⟨hne, hn⟩ := hk1 n hn
    rw [Tr.set_other hne]
    exact (h.dir n hn).kept k (h.ebm n hn)
  · intro n hn
    obtain ⟨hne, hn⟩ := hk n hn
    rw [Tr.set_other hne]
    exact (h.data n hn).kept k fun b hb e => h.dv_ne_mb hn (by rw [hb, e])
  · exact fun n m hn hm => h.nbi n m (hk n hn).2 (hk m hm).2
  · exact fun n m hn hm => h.ebi n m (hk1 n hn).2 (hk1 m hm).2
  · exact fun n hn => h.ebm n (hk1 n hn).2
  · exact fun n m hn hm => h.dvi n m (hk n hn).2 (hk m hm).2
/-- A node has come: a directory, or a file without bytes, whose blocks lay there already. -/
theorem come (h : TreeAt w L N t) (a : Nat) (ha : (t a).kind = 0) (kind : Nat) (hk : kind = 1 ∨ kind = 2) (k : Keep (fun b => b = L.mb) w w') {N' : Nat} (hN : N ≤ N') (b e : Nat)
    (hb : w.heap[b]? = some (.cells #[.int .i64 (kind : Int), .int .i64 1, if kind = 1 then .map (some e) else .map none, .slice none 0 0] 72))
    (hnew : ¬ Foot L t b ∧ (kind = 1 → MapV Tryz.prog 9 w e 0 (fun _ => none) ∧ ¬ Foot L t e))
    (hm : MapV Tryz.prog 3 w' L.mb N' (upd (nodeF L t) (.int .i64 (a : Int)) (some (.pointer (some ⟨b, 0, none⟩))))) :
    TreeAt w' { L with nb := fun n => if n = a then b else L.nb n, eb := fun n => if n = a then e else L.eb n, dv := fun n => if n = a then .slice none 0 0 else L.dv n } N' (t.set a ⟨kind, 1, [], []⟩) := by
  have hlb : b < w.heap.size := (Array.getElem?_eq_some_iff.1 hb).1
  have hbm : b ≠ L.mb := fun e => hnew.1 (.inr (.inl e))
  have hk0 : ∀ n, n ≠ a → ((t.set a ⟨kind, 1, [], []⟩) n).kind = (t n).kind := fun n hn => by rw [Tr.set_other hn]
  have hka : ((t.set a ⟨kind, 1, [], []⟩) a).kind = kind := by rw [Tr.set_same]
  constructor
  · exact (k.block _ (h.lt (.inl rfl)) h.tb_ne_mb).trans h.tree
  · refine hm.congr fun x xl hx => ?_
    obtain ⟨z, _, rfl, _⟩ := Maps.keyOf_i64 Tryz.underlying3 hx
    by_cases hz : z = (a : Int)
    · subst hz
      rw [upd_same]
      have : kind ≠ 0 := by omega
      simp [nodeF, Tr.set_same, this]
    · rw [upd_other _ fun he => hz (by injection he)]
      simp only [nodeF]
      by_cases hz' : 0 ≤ z
      · have : z.toNat ≠ a := by omega
        rw [Tr.set_other this, if_neg this]
      · rw [if_neg fun hh => hz' hh.1, if_neg fun hh => hz' hh.1]
  · intro n hn
    by_cases hna : n = a
    · subst hna
      simp only [entV, Tr.set_same, if_true]
      exact (k.block _ hlb hbm).trans hb
    · rw [hk0 n hna] at hn
      simp only [entV, Tr.set_other hna, if_neg hna]
      exact (k.block _ (h.lt (.inr (.inr ⟨n, hn, .inl rfl⟩))) (h.nb_ne_mb hn)).trans (h.node n hn)
  · intro n hn
    by_cases hna : n = a
    · subst hna
      rw [Tr.set_same] at hn
      simp only [Tr.set_same, if_true]
      obtain ⟨he, hf⟩ := hnew.2 hn
      exact ((he.kept k fun e' => hf (.inr (.inl e'))).mono (Nat.zero_le _)).congr fun v kl _ => by cases kl <;> rfl
    · rw [hk0 n hna] at hn
      simp only [Tr.set_other hna, if_neg hna]
      exact ((h.dir n hn).kept k (h.ebm n hn)).mono hN
  · intro n hn
    by_cases hna : n = a
    · subst hna
      simp only [Tr.set_same, if_true]
      exact Own.nil _ _
    · rw [hk0 n hna] at hn
      simp only [Tr.set_other hna, if_neg hna]
      exact (h.data n hn).kept k fun b hb e => h.dv_ne_mb hn (by rw [hb, e])
  · intro n m hn hm he
    by_cases hna : n = a
    · by_cases hma : m = a
      · rw [hna, hma]
      · rw [hk0 m hma] at hm
        simp only [if_pos hna, if_neg hma] at he
        exact absurd (.inr (.inr ⟨m, hm, .inl he⟩)) hnew.1
    · by_cases hma : m = a
      · rw [hk0 n hna] at hn
        simp only [if_neg hna, if_pos hma] at he
        exact absurd (.inr (.inr ⟨n, hn, .inl he.symm⟩)) hnew.1
      · rw [hk0 n hna] at hn
        rw [hk0 m hma] at hm
        simp only [if_neg hna, if_neg hma] at he
        exact h.nbi n m hn hm he
  · intro n m hn hm he
    by_cases hna : n = a
    · by_cases hma : m = a
      · rw [hna, hma]
      · subst hna
        rw [hka] at hn
        rw [hk0 m hma] at hm
        simp only [if_true, if_neg hma] at he
        exact absurd (.inr (.inr ⟨m, by omega, .inr (.inl ⟨hm, he⟩)⟩)) (hnew.2 hn).2
    · by_cases hma : m = a
      · subst hma
        rw [hka] at hm
        rw [hk0 n hna] at hn
        simp only [if_neg hna, if_true] at he
        exact absurd (.inr (.inr ⟨n, by omega, .inr (.inl ⟨hn, he.symm⟩)⟩)) (hnew.2 hm).2
      · rw [hk0 n hna] at hn
        rw [hk0 m hma] at hm
        simp only [if_neg hna, if_neg hma] at he
        exact h.ebi n m hn hm he
  · intro n hn
    by_cases hna : n = a
    · subst hna
      rw [hka] at hn
      simp only [if_true]
      exact fun e' => (hnew.2 hn).2 (.inr (.inl e'))
    · rw [hk0 n hna] at hn
      simp only [if_neg hna]
      exact h.ebm n hn
  · intro n m hn hm q h1 h2
    by_cases hna : n = a
    · simp only [if_pos hna] at h1
      simp [Value.ownBlock] at h1
    · by_cases hma : m = a
      · simp only [if_pos hma] at h2
        simp [Value.ownBlock] at h2
      · rw [hk0 n hna] at hn
        rw [hk0 m hma] at hm
        simp only [if_neg hna, if_neg hma] at h1 h2
        exact h.dvi n m hn hm q h1 h2
end TreeAt
end Go.Proofs.YtlkiaghpdjbfeaaGreatDoor

namespace Go.Proofs.YtlkiaghpdjbfeaaGreatDoor
open Go.RowKit

theorem run_copy_u8 {P : Program} {T E : TypeId} (U : U8 P T E) (sT ty : TypeId) (w : World) (g n c off : Nat) (l m : Txt) (hown : Own E w (.slice (some ⟨g, 0, none⟩) n c) l) (dp : Option Addr) (dCap : Nat) (hoff : off ≤ n)
    (B : Nat) (A : Option Addr) (k kc : Nat) (hk : k = m.length) (hr : Rd w B A m) (q : Nat) (hq : q = min k (n - off)) (hpos : 0 < q → dp = some ⟨g, off, none⟩) :
    ∃ w', (Builtin.copy_ #[T, sT] ty #[.slice dp (n - off) dCap, .slice A k kc]).run P w = .ok (goInt (q : Int)) w' ∧ Own E w' (.slice (some ⟨g, 0, none⟩) n c) (over l off (m.take (n - off))) ∧ Keep (fun b => b = g) w w' := by
  obtain ⟨i, hi, hz, hs, hby⟩ := U.info
  have hsz : (P.info? E).map (·.size) = some 1 := by rw [hi]; simp [hs]
  have hln := hown.len
  have hmin : q = (m.take (n - off)).length := by rw [List.length_take, hq, hk]; omega
  rcases Nat.eq_zero_or_pos q with h0 | hp
  · have he : m.take (n - off) = [] := List.eq_nil_of_length_eq_zero (by rw [← hmin]; exact h0)
    refine ⟨w, ?_, ?_, Keep.refl _ w⟩
    · rw [run_copy_none w T sT ty E dp A (n - off) dCap k kc U.under hsz (show Nat.min k (n - off) = 0 from hq.symm.trans h0), h0]
      rfl
    · rw [he]
      unfold over
      simpa using hown
  · obtain rfl := hpos hp
    obtain ⟨ad, rfl, _⟩ := hr.some_of (by omega)
    rcases hown.2 with ⟨h, _⟩ | ⟨g', cap, cur, hv, hb, hh, hnc, hcm, hcs, ht⟩
    · cases h
    · injection hv with hv1 hv2 hv3
      injection hv1 with hv1
      injection hv1 with hv1
      subst hv1 hv3
      simp only [Nat.mul_one] at hcs ht
      have hcl : (u8s (m.take (n - off))).length = q := by rw [u8s_length, hmin]
      have hrun := run_copy_row (P := P) w T sT ty E g off (n - off) dCap ad k kc cur E (u8s (m.take (n - off))) U.under hsz hh (hcl.trans hq) (fun j v hj => by
        simp only [u8s, List.getElem?_map, Option.map_eq_some_iff] at hj
        obtain ⟨b, hb, rfl⟩ := hj
        obtain ⟨a, ha, _, hc⟩ := hr j b (by
          rw [List.getElem?_take] at hb
          split at hb
          · exact hb
          · cases hb)
        injection ha with ha
        subst ha
        exact hc) (by rw [hcl]; omega) (u8s_one _)
      rw [hcl] at hrun
      refine ⟨_, hrun, ⟨?_, .inr ⟨g, c, _, ?_, Nat.zero_le _, setRow_heap w g cur _ E _ hh, ?_, hcm, ?_, ?_⟩⟩, ?_⟩
      · rw [u8s_length, Nat.mul_one]
      · rw [over_length (by rw [← hmin]; omega), ← hln]
      · rw [over_length (by rw [← hmin]; omega), ← hln]; omega
      · simp
        omega
      · rw [over_length (by rw [← hmin]; omega), ← hln]
        simp only [Nat.mul_one]
        have hl : u8s l = cur.toList.take n := by rw [← ht, hln]
        unfold over
        rw [u8s_append, u8s_append]
        have e1 : u8s (l.take off) = cur.toList.take off := by
          have : u8s (l.take off) = (u8s l).take off := by simp [u8s, List.map_take]
          rw [this, hl, List.take_take]
          congr 1
          omega
        have e2 : u8s (l.drop (off + (m.take (n - off)).length)) = (cur.toList.take n).drop (off + q) := by
          rw [← hmin, ← hl]
          simp [u8s, List.map_drop]
        rw [e1, e2]
        have hX : (cur.toList.take off ++ u8s (m.take (n - off))).length = off + q := by
          rw [List.length_append, hcl, List.length_take, Array.length_toList]
          omega
        rw [List.take_append, hX, List.take_of_length_le (by rw [hX]; omega), List.drop_take]
      · refine ⟨rfl, rfl, rfl, by simp [World.setRow], fun q _ hq => setRow_other w g q _ hq⟩
end Go.Proofs.YtlkiaghpdjbfeaaGreatDoor

namespace Go.Proofs.YtlkiaghpdjbfeaaGreatDoor
open Go.RowKit

theorem add_flat (b o j : Nat) : (⟨b, o, none⟩ : Addr).add j = ⟨b, o + j, none⟩ := by unfold Addr.add; split <;> simp_all
/-- What the laws on append ask of a type of rows of texts. -/
structure St (P : Program) (T E : TypeId) : Prop where
  under : P.underlying T = some (.slice E)
  info : ∃ i, P.info? E = some i ∧ i.zero = some (.string ByteArray.empty) ∧ i.size = 1 ∧ i.bytes = 16
/-- The value v is a row of the call's own that holds the texts xs. -/
def OwnT (E : TypeId) (w : World) (v : Value) (xs : List ByteArray) : Prop := w.ownsRow 0 E 1 v xs.length (xs.map Value.string)
section
variable {P : Program} {E : TypeId} {w w' : World} {v : Value} {xs : List ByteArray}
theorem OwnT.shape (h : OwnT E w v xs) : ∃ A c, v = .slice A xs.length c ∧ xs.length ≤ c ∧ c ≤ maxLen ∧ Strs w w.heap.size A xs ∧ (∀ g, v.ownBlock = some g → ∃ o, A = some ⟨g, o, none⟩) := by
  rcases h.2 with ⟨rfl, h0⟩ | ⟨g, cap, cur, rfl, _, hg, hnc, hcm, _⟩
  · have : xs = [] := List.eq_nil_of_length_eq_zero h0
    subst this
    exact ⟨none, 0, rfl, Nat.le_refl _, Nat.zero_le _, Strs.nil, fun g hg => by simp [Value.ownBlock] at hg⟩
  · refine ⟨some ⟨g, 0, none⟩, cap, rfl, hnc, hcm, fun j x hj => ⟨g, 0, rfl, ?_, ?_⟩, fun k hk => ?_⟩
    · exact (Array.getElem?_eq_some_iff.1 hg).1
    · have := World.ownsRow.cells (g := g) h rfl j (.string x) (by rw [List.getElem?_map, hj]; rfl)
      rw [add_flat] at this
      exact this
    · simp [Value.ownBlock] at hk
      subst hk
      exact ⟨0, rfl⟩
theorem OwnT.alloc (h : OwnT E w v xs) (o : Obj) : OwnT E (w.alloc o) v xs := World.ownsRow.alloc h o
theorem OwnT.drew (h : OwnT E w v xs) : OwnT E w.drew v xs := h
theorem OwnT.empty (E : TypeId) (w : World) : OwnT E (w.alloc (.cells #[] E)) (.slice (some ⟨w.heap.size, 0, none⟩) 0 0) [] :=
  ⟨rfl, .inr ⟨w.heap.size, 0, #[], rfl, Nat.zero_le _, heap_alloc_new w _, Nat.le_refl _, Nat.zero_le _, rfl, rfl⟩⟩
theorem OwnT.kept {S : Nat → Prop} (h : OwnT E w v xs) (hk : Keep S w w') (hs : ∀ k, v.ownBlock = some k → ¬ S k) : OwnT E w' v xs := by
  refine ⟨h.1, ?_⟩
  rcases h.2 with h0 | ⟨g, cap, cur, hv, hb, hg, hnc, hcm, hcs, ht⟩
  · exact .inl h0
  · refine .inr ⟨g, cap, cur, hv, hb, ?_, hnc, hcm, hcs, ht⟩
    rw [hk.block g (Array.getElem?_eq_some_iff.1 hg).1 (hs g (by rw [hv]; rfl))]
    exact hg
end
section
variable {P : Program} (w : World)
theorem strs_one (s : ByteArray) (E : TypeId) : Strs (w.alloc (.cells #[.string s] E)) (w.heap.size + 1) (some ⟨w.heap.size, 0, none⟩) [s] := fun j x hj => by
  rcases j with _ | j
  · injection hj with hj
    subst hj
    refine ⟨_, _, rfl, by omega, ?_⟩
    rw [World.cell?_alloc_mark]
    rfl
  · simp at hj
theorem run_append_str {T E : TypeId} (U : St P T E) (ty : TypeId) (v : Value) (xs : List ByteArray) (hown : OwnT E w v xs) (B : Nat) (A : Option Addr) (c : Nat) (ys : List ByteArray) (n : Nat) (hn : n = ys.length) (hr : Strs w B A ys)
    (hb : xs.length + ys.length ≤ 1000000000) :
    ∃ v' w', (Builtin.append_ #[T, T] ty #[v, .slice A n c]).run P w = .ok v' w' ∧ OwnT E w' v' (xs ++ ys) ∧ w.grownBy w' v.ownBlock ∧ (v'.ownBlock = v.ownBlock ∨ v'.ownBlock = some w.heap.size) := by
  subst hn
  obtain ⟨i, hi, hz, hs, hby⟩ := U.info
  rcases hm : A with _ | ad
  · have : ys = [] := by
      rcases ys with _ | ⟨b, m⟩
      · rfl
      · obtain ⟨b, o, h, _⟩ := hr 0 b rfl
        rw [hm] at h
        cases h
    subst this
    refine ⟨v, w, ?_, by simpa using hown, World.grownBy.refl w _, .inl rfl⟩
    rcases hown.2 with ⟨rfl, h0⟩ | ⟨g, cap, cur, rfl, _, _, hnc, _⟩
    · simp [Builtin.append_, run_underlying U.under, sizeOf, typeInfo, hi, Builtin.lenOf, Builtin.firstCells]
    · simp [Builtin.append_, run_underlying U.under, sizeOf, typeInfo, hi, Builtin.lenOf, Builtin.firstCells, hnc, storeCells]
  · subst hm
    have hcells : ∀ j u, (ys.map Value.string)[j]? = some u → w.cell? (ad.add j) = some u := by
      intro j u hu
      rw [List.getElem?_map, Option.map_eq_some_iff] at hu
      obtain ⟨x, hx, rfl⟩ := hu
      obtain ⟨b, o, e, _, hc⟩ := hr j x hx
      injection e with e
      subst e
      rw [add_flat]
      exact hc
    obtain ⟨v', w', hrun, h2, h3, _, h5⟩ := run_append_own_at (P := P) w 0 T ty E i (.string ByteArray.empty) 1 16 U.under hi hz hs hby rfl (by omega) v xs.length (xs.map Value.string) hown ad ys.length c (ys.map Value.string) (by simp) hcells
      (fun u hu => by
        rw [List.mem_map] at hu
        obtain ⟨x, _, rfl⟩ := hu
        rfl) (by simp only [maxLen]; omega) (by omega) (Nat.zero_le _)
    exact ⟨v', w', hrun, by simpa [OwnT] using h2, h3, h5⟩
theorem wpList_append_str {ops : Array Oper} {rest : List Oper} {o : Oper} {a : Act} {Q : Exit → Act → World → Prop} (hgd : o.guard = none) (s x : Operand) (T : TypeId)
    (ho : o.op = .call { callee := .builtin .append, args := #[s, x], argTypes := #[T, T] }) {E : TypeId} (U : St P T E) (v : Value) (xs : List ByteArray) (hs : a.eval s = v) (hown : OwnT E w v xs) (B : Nat) (A : Option Addr) (n c : Nat) (ys : List ByteArray)
    (hx : a.eval x = .slice A n c) (hn : n = ys.length) (hr : Strs w B A ys) (hb : xs.length + ys.length ≤ 1000000000)
    (h : ∀ A' n' c' w', OwnT E w' (.slice A' n' c') (xs ++ ys) → Hid (n' = (xs ++ ys).length) → n' ≤ c' → c' ≤ maxLen → w.grownBy w' v.ownBlock → ((Value.slice A' n' c').ownBlock = v.ownBlock ∨ (Value.slice A' n' c').ownBlock = some w.heap.size) → wpList P ops Q rest (a.put o.dst (.slice A' n' c')) w') : wpList P ops Q (o :: rest) a w := by
  refine wpList_plain hgd fun K hK => ?_
  obtain ⟨v', w', hrun, h2, h3, h4⟩ := run_append_str (P := P) w U o.type v xs hown B A c ys n hn hr hb
  unfold Oper.wp execOp
  simp only [ho, resolve, invoke, builtin, Sem.run_bind, Sem.run_pure, Result.andThen_ok, List.map_toArray, List.map_cons, List.map_nil, hs, hx, hrun]
  obtain ⟨A', c', rfl, hle, hm, _, _⟩ := h2.shape
  exact hK _ _ (h _ _ _ w' h2 rfl hle hm h3 h4)
theorem wp_append_str {o : Oper} {a : Act} {K : Act → World → Prop} {Q : Exit → Act → World → Prop} (s x : Operand) (T : TypeId)
    (ho : o.op = .call { callee := .builtin .append, args := #[s, x], argTypes := #[T, T] }) {E : TypeId} (U : St P T E) (v : Value) (xs : List ByteArray) (hs : a.eval s = v) (hown : OwnT E w v xs) (B : Nat) (A : Option Addr) (n c : Nat) (ys : List ByteArray)
    (hx : a.eval x = .slice A n c) (hn : n = ys.length) (hr : Strs w B A ys) (hb : xs.length + ys.length ≤ 1000000000)
    (h : ∀ A' n' c' w', OwnT E w' (.slice A' n' c') (xs ++ ys) → Hid (n' = (xs ++ ys).length) → n' ≤ c' → c' ≤ maxLen → w.grownBy w' v.ownBlock → ((Value.slice A' n' c').ownBlock = v.ownBlock ∨ (Value.slice A' n' c').ownBlock = some w.heap.size) → K (a.put o.dst (.slice A' n' c')) w') : o.wp P a w K Q := by
  obtain ⟨v', w', hrun, h2, h3, h4⟩ := run_append_str (P := P) w U o.type v xs hown B A c ys n hn hr hb
  unfold Oper.wp execOp
  simp only [ho, resolve, invoke, builtin, Sem.run_bind, Sem.run_pure, Result.andThen_ok, List.map_toArray, List.map_cons, List.map_nil, hs, hx, hrun]
  obtain ⟨A', c', rfl, hle, hm, _, _⟩ := h2.shape
  exact h _ _ _ w' h2 rfl hle hm h3 h4
theorem wpList_append_want {ops : Array Oper} {rest : List Oper} {o : Oper} {a : Act} {Q : Exit → Act → World → Prop} (hw : Region.wanted o (yielded ops a.tmps) = true) (s x : Operand) (T : TypeId)
    (ho : o.op = .call { callee := .builtin .append, args := #[s, x], argTypes := #[T, T] }) {E : TypeId} (U : St P T E) (v : Value) (xs : List ByteArray) (hs : a.eval s = v) (hown : OwnT E w v xs) (B : Nat) (A : Option Addr) (n c : Nat) (ys : List ByteArray)
    (hx : a.eval x = .slice A n c) (hn : n = ys.length) (hr : Strs w B A ys) (hb : xs.length + ys.length ≤ 1000000000)
    (h : ∀ A' n' c' w', OwnT E w' (.slice A' n' c') (xs ++ ys) → Hid (n' = (xs ++ ys).length) → n' ≤ c' → c' ≤ maxLen → w.grownBy w' v.ownBlock → ((Value.slice A' n' c').ownBlock = v.ownBlock ∨ (Value.slice A' n' c').ownBlock = some w.heap.size) → wpList P ops Q rest (a.put o.dst (.slice A' n' c')) w') : wpList P ops Q (o :: rest) a w :=
  BigFrame.wpList_want hw fun _ hK => wp_append_str w s x T ho U v xs hs hown B A n c ys hx hn hr hb fun A' n' c' w' h2 h3 h4 h5 h6 h7 => hK _ _ (h A' n' c' w' h2 h3 h4 h5 h6 h7)
end
end Go.Proofs.YtlkiaghpdjbfeaaGreatDoor

namespace Go.Proofs.YtlkiaghpdjbfeaaGreatDoor
open Go.RowKit

/-- An entry's cells. -/
def entCells (e : Txt × Nat) : List Value := [.string (ba e.1), .int .i64 (e.2 : Int)]
def rowCells (es : Row) : List Value := es.flatMap entCells
theorem rowCells_append (a b : Row) : rowCells (a ++ b) = rowCells a ++ rowCells b := List.flatMap_append
theorem rowCells_length (es : Row) : (rowCells es).length = es.length * 2 := by
  induction es with
  | nil => rfl
  | cons e r ih =>
    show (entCells e ++ rowCells r).length = _
    rw [List.length_append, ih, List.length_cons]
    simp [entCells]
    omega
theorem rowCells_one (es : Row) : ∀ u ∈ rowCells es, u.oneCell' = true := by
  intro u hu
  obtain ⟨e, _, he⟩ := List.mem_flatMap.1 hu
  simp [entCells] at he
  rcases he with rfl | rfl <;> rfl
theorem rowCells_get {es : Row} {j : Nat} {e : Txt × Nat} (h : es[j]? = some e) : (rowCells es)[j * 2]? = some (.string (ba e.1)) ∧ (rowCells es)[j * 2 + 1]? = some (.int .i64 (e.2 : Int)) := by
  induction es generalizing j with
  | nil => simp at h
  | cons x r ih =>
    have e1 : rowCells (x :: r) = .string (ba x.1) :: .int .i64 (x.2 : Int) :: rowCells r := rfl
    rw [e1]
    rcases j with _ | j
    · injection h with h
      subst h
      exact ⟨rfl, rfl⟩
    · have := ih (j := j) (by simpa using h)
      have e2 : (j + 1) * 2 = j * 2 + 1 + 1 := by omega
      rw [e2]
      exact ⟨this.1, this.2⟩
/-- From the address A on, in blocks below B, the cells hold the entries es. -/
def Ents (w : World) (B : Nat) (A : Option Addr) (es : Row) : Prop :=
  ∀ j e, es[j]? = some e → ∃ b o, A = some ⟨b, o, none⟩ ∧ b < B ∧ w.cell? ⟨b, o + j * 2, none⟩ = some (.string (ba e.1)) ∧ w.cell? ⟨b, o + j * 2 + 1, none⟩ = some (.int .i64 (e.2 : Int))
section
variable {w w' : World} {A : Option Addr} {es : Row} {B B' : Nat}
theorem Ents.nil : Ents w B A [] := fun j e h => by simp at h
theorem Ents.far (h : Ents w B A es) (hk : ∀ p : Addr, p.block < B → w'.cell? p = w.cell? p) : Ents w' B A es := fun j e hj => by
  obtain ⟨b, o, rfl, hb, h1, h2⟩ := h j e hj
  exact ⟨b, o, rfl, hb, (hk _ hb).trans h1, (hk _ hb).trans h2⟩
theorem Ents.more (h : Ents w B A es) (hB : B ≤ B') : Ents w B' A es := fun j e hj => by
  obtain ⟨b, o, rfl, hb, h1, h2⟩ := h j e hj
  exact ⟨b, o, rfl, by omega, h1, h2⟩
theorem Ents.keep {S : Nat → Prop} (h : Ents w B A es) (hB : B ≤ w.heap.size) (k : Keep S w w') (hS : ∀ a : Addr, A = some a → ¬ S a.block) : Ents w' B A es := fun j e hj => by
  obtain ⟨b, o, rfl, hb, h1, h2⟩ := h j e hj
  have hn : ¬ S b := hS _ rfl
  exact ⟨b, o, rfl, hb, (k.cell (by show b < _; omega) hn).trans h1, (k.cell (by show b < _; omega) hn).trans h2⟩
theorem Ents.drewN (h : Ents w B A es) (n : Nat) : Ents (w.drewN n) B A es := h
theorem Ents.drop {b o : Nat} (h : Ents w B (some ⟨b, o, none⟩) es) (k : Nat) : Ents w B (some ⟨b, o + k * 2, none⟩) (es.drop k) := fun j e hj => by
  rw [List.getElem?_drop] at hj
  obtain ⟨b', o', ha, hb, h1, h2⟩ := h (k + j) e hj
  injection ha with ha
  injection ha with ha1 ha2
  subst ha1 ha2
  have e : o + k * 2 + j * 2 = o + (k + j) * 2 := by omega
  exact ⟨b, _, rfl, hb, by rw [e]; exact h1, by rw [e]; exact h2⟩
theorem Ents.take (h : Ents w B A es) (k : Nat) : Ents w B A (es.take k) := fun j e hj => h j e (by
  rw [List.getElem?_take] at hj
  split at hj
  · exact hj
  · cases hj)
theorem Ents.at_ (h : Ents w B A es) {j : Nat} (hj : j < es.length) : ∃ b o, A = some ⟨b, o, none⟩ ∧ b < B ∧ w.cell? ⟨b, o + j * 2, none⟩ = some (.string (ba es[j].1)) ∧ w.cell? ⟨b, o + j * 2 + 1, none⟩ = some (.int .i64 (es[j].2 : Int)) :=
  h j _ (List.getElem?_eq_getElem hj)
end

/-- What the laws on append ask of a type of rows of entries. -/
structure Et (P : Program) (T E : TypeId) : Prop where
  under : P.underlying T = some (.slice E)
  info : ∃ i z, P.info? E = some i ∧ i.zero = some z ∧ i.size = 2 ∧ i.bytes = 24 ∧ z.cells.size = 2
/-- The value v is a row of the call's own that holds the entries es. -/
def OwnE (E : TypeId) (w : World) (v : Value) (es : Row) : Prop := w.ownsRow 0 E 2 v es.length (rowCells es)
section
variable {P : Program} {E : TypeId} {w w' : World} {v : Value} {es : Row}
theorem OwnE.shape (h : OwnE E w v es) : ∃ A c, v = .slice A es.length c ∧ es.length ≤ c ∧ c ≤ maxLen ∧ Ents w w.heap.size A es ∧ (∀ a : Addr, A = some a → v.ownBlock = some a.block) := by
  rcases h.2 with ⟨rfl, h0⟩ | ⟨g, cap, cur, rfl, _, hg, hnc, hcm, _⟩
  · have : es = [] := List.eq_nil_of_length_eq_zero h0
    subst this
    exact ⟨none, 0, rfl, Nat.le_refl _, Nat.zero_le _, Ents.nil, fun a ha => by cases ha⟩
  · refine ⟨some ⟨g, 0, none⟩, cap, rfl, hnc, hcm, fun j e hj => ?_, fun a ha => ?_⟩
    · have hlt := (Array.getElem?_eq_some_iff.1 hg).1
      obtain ⟨c1, c2⟩ := rowCells_get hj
      have h1 := World.ownsRow.cells (g := g) h rfl _ _ c1
      have h2 := World.ownsRow.cells (g := g) h rfl _ _ c2
      rw [add_flat] at h1 h2
      exact ⟨g, 0, rfl, hlt, h1, by rw [Nat.add_assoc]; exact h2⟩
    · injection ha with ha
      subst ha
      rfl
theorem OwnE.alloc (h : OwnE E w v es) (o : Obj) : OwnE E (w.alloc o) v es := World.ownsRow.alloc h o
theorem OwnE.empty (E : TypeId) (w : World) : OwnE E (w.alloc (.cells #[] E)) (.slice (some ⟨w.heap.size, 0, none⟩) 0 0) [] :=
  ⟨rfl, .inr ⟨w.heap.size, 0, #[], rfl, Nat.zero_le _, heap_alloc_new w _, Nat.le_refl _, Nat.zero_le _, rfl, rfl⟩⟩
theorem OwnE.kept {S : Nat → Prop} (h : OwnE E w v es) (hk : Keep S w w') (hs : ∀ k, v.ownBlock = some k → ¬ S k) : OwnE E w' v es := by
  refine ⟨h.1, ?_⟩
  rcases h.2 with h0 | ⟨g, cap, cur, hv, hb, hg, hnc, hcm, hcs, ht⟩
  · exact .inl h0
  · refine .inr ⟨g, cap, cur, hv, hb, ?_, hnc, hcm, hcs, ht⟩
    rw [hk.block g (Array.getElem?_eq_some_iff.1 hg).1 (hs g (by rw [hv]; rfl))]
    exact hg
end
section
variable {P : Program} (w : World)
theorem ents_one (e : Txt × Nat) (E : TypeId) : Ents (w.alloc (.cells #[.string (ba e.1), .int .i64 (e.2 : Int)] E)) (w.heap.size + 1) (some ⟨w.heap.size, 0, none⟩) [e] := fun j x hj => by
  rcases j with _ | j
  · injection hj with hj
    subst hj
    refine ⟨_, _, rfl, by omega, ?_, ?_⟩
    · rw [World.cell?_alloc_mark]; rfl
    · rw [World.cell?_alloc_mark]; rfl
  · simp at hj
theorem run_append_ent {T E : TypeId} (U : Et P T E) (ty : TypeId) (v : Value) (es : Row) (hown : OwnE E w v es) (B : Nat) (A : Option Addr) (c : Nat) (fs : Row) (n : Nat) (hn : n = fs.length) (hr : Ents w B A fs)
    (hb : es.length + fs.length ≤ 1000000000) :
    ∃ v' w', (Builtin.append_ #[T, T] ty #[v, .slice A n c]).run P w = .ok v' w' ∧ OwnE E w' v' (es ++ fs) ∧ w.grownBy w' v.ownBlock ∧ (v'.ownBlock = v.ownBlock ∨ v'.ownBlock = some w.heap.size) := by
  subst hn
  obtain ⟨i, z, hi, hz, hs, hby, hzs⟩ := U.info
  rcases hm : A with _ | ad
  · have : fs = [] := by
      rcases fs with _ | ⟨b, m⟩
      · rfl
      · obtain ⟨b, o, h, _⟩ := hr 0 b rfl
        rw [hm] at h
        cases h
    subst this
    refine ⟨v, w, ?_, by simpa using hown, World.grownBy.refl w _, .inl rfl⟩
    rcases hown.2 with ⟨rfl, h0⟩ | ⟨g, cap, cur, rfl, _, _, hnc, _⟩
    · simp [Builtin.append_, run_underlying U.under, sizeOf, typeInfo, hi, Builtin.lenOf, Builtin.firstCells]
    · simp [Builtin.append_, run_underlying U.under, sizeOf, typeInfo, hi, Builtin.lenOf, Builtin.firstCells, hnc, storeCells]
  · subst hm
    have hcells : ∀ j u, (rowCells fs)[j]? = some u → w.cell? (ad.add j) = some u := by
      intro j u hu
      have hlt : j < fs.length * 2 := by
        rcases Nat.lt_or_ge j (fs.length * 2) with h | h
        · exact h
        · rw [List.getElem?_eq_none (by rw [rowCells_length]; exact h)] at hu; cases hu
      have hq : j / 2 < fs.length := by omega
      obtain ⟨b, o, e, _, h1, h2⟩ := hr.at_ hq
      injection e with e
      subst e
      obtain ⟨c1, c2⟩ := rowCells_get (List.getElem?_eq_getElem hq)
      rw [add_flat]
      rcases Nat.mod_two_eq_zero_or_one j with hm | hm
      · have ej : j / 2 * 2 = j := by omega
        rw [ej] at c1 h1
        rw [c1] at hu
        injection hu with hu
        rw [← hu]
        exact h1
      · have ej : j / 2 * 2 + 1 = j := by omega
        rw [ej] at c2
        rw [Nat.add_assoc, ej] at h2
        rw [c2] at hu
        injection hu with hu
        rw [← hu]
        exact h2
    obtain ⟨v', w', hrun, h2, h3, _, h5⟩ := run_append_own_at (P := P) w 0 T ty E i z 2 24 U.under hi hz hs hby hzs (by omega) v es.length (rowCells es) hown ad fs.length c (rowCells fs) (rowCells_length fs) hcells
      (rowCells_one fs) (by simp only [maxLen]; omega) (by omega) (Nat.zero_le _)
    exact ⟨v', w', hrun, by simpa [OwnE, rowCells_append] using h2, h3, h5⟩
theorem wpList_append_ent {ops : Array Oper} {rest : List Oper} {o : Oper} {a : Act} {Q : Exit → Act → World → Prop} (hgd : o.guard = none) (s x : Operand) (T : TypeId)
    (ho : o.op = .call { callee := .builtin .append, args := #[s, x], argTypes := #[T, T] }) {E : TypeId} (U : Et P T E) (v : Value) (es : Row) (hs : a.eval s = v) (hown : OwnE E w v es) (B : Nat) (A : Option Addr) (n c : Nat) (fs : Row)
    (hx : a.eval x = .slice A n c) (hn : n = fs.length) (hr : Ents w B A fs) (hb : es.length + fs.length ≤ 1000000000)
    (h : ∀ A' n' c' w', OwnE E w' (.slice A' n' c') (es ++ fs) → Hid (n' = (es ++ fs).length) → n' ≤ c' → c' ≤ maxLen → w.grownBy w' v.ownBlock → ((Value.slice A' n' c').ownBlock = v.ownBlock ∨ (Value.slice A' n' c').ownBlock = some w.heap.size) → wpList P ops Q rest (a.put o.dst (.slice A' n' c')) w') : wpList P ops Q (o :: rest) a w := by
  refine wpList_plain hgd fun K hK => ?_
  obtain ⟨v', w', hrun, h2, h3, h4⟩ := run_append_ent (P := P) w U o.type v es hown B A c fs n hn hr hb
  unfold Oper.wp execOp
  simp only [ho, resolve, invoke, builtin, Sem.run_bind, Sem.run_pure, Result.andThen_ok, List.map_toArray, List.map_cons, List.map_nil, hs, hx, hrun]
  obtain ⟨A', c', rfl, hle, hm, _, _⟩ := h2.shape
  exact hK _ _ (h _ _ _ w' h2 rfl hle hm h3 h4)
end
end Go.Proofs.YtlkiaghpdjbfeaaGreatDoor

namespace Go.Proofs.YtlkiaghpdjbfeaaGreatDoor
open Go.RowKit
variable {Zp : Nat → Prop}

/-- Node n of the tree in block g. -/
structure RNode (Zp : Nat → Prop) (w : World) (g n : Nat) (x : TNode) : Prop where
  num : w.cell? ⟨g, n * 5, none⟩ = some (.int .i64 ((if x.kind = 0 then 0 else n : Nat) : Int))
  kind : w.cell? ⟨g, n * 5 + 1, none⟩ = some (.int .i64 (x.kind : Int))
  links : w.cell? ⟨g, n * 5 + 2, none⟩ = some (.int .i64 (x.links : Int))
  data : ∃ A c, w.cell? ⟨g, n * 5 + 3, none⟩ = some (.slice A x.data.length c) ∧ Rd w w.heap.size A x.data ∧ ∀ a : Addr, A = some a → a.block ≠ g ∧ (x.data ≠ [] → Zp a.block)
  ents : ∃ A c, w.cell? ⟨g, n * 5 + 4, none⟩ = some (.slice A x.entries.length c) ∧ x.entries.length ≤ c ∧ c ≤ maxLen ∧ Ents w w.heap.size A x.entries ∧ ∀ a : Addr, A = some a → a.block ≠ g ∧ (x.entries ≠ [] → Zp a.block)
structure RefAt (Zp : Nat → Prop) (w : World) (g : Nat) (t : Tr) : Prop where
  blk : ∃ cs, w.heap[g]? = some (.cells cs 58 (0, 0)) ∧ cs.size = 320
  node : ∀ n, n < 64 → RNode Zp w g n (t n)
  new : ∀ b, w.heap.size ≤ b → Zp b
section
variable {w w' : World} {g n : Nat} {x : TNode} {t : Tr}
theorem RNode.keep {S : Nat → Prop} (h : RNode Zp w g n x) (k : Keep S w w') (hl : g < w.heap.size) (hg : ¬ S g) (hS : ∀ i, S i → i = g ∨ w.heap.size ≤ i) : RNode Zp w' g n x := by
  have c : ∀ j, w'.cell? ⟨g, j, none⟩ = w.cell? ⟨g, j, none⟩ := fun j => k.cell (p := ⟨g, j, none⟩) hl hg
  obtain ⟨A, d, h1, h2, h3⟩ := h.data
  obtain ⟨A', d', e1, e2, e3, e4, e5⟩ := h.ents
  have far : ∀ b, b < w.heap.size → b ≠ g → ¬ S b := fun b hb hn hs => by rcases hS b hs with h | h <;> omega
  refine ⟨(c _).trans h.num, (c _).trans h.kind, (c _).trans h.links, ⟨A, d, (c _).trans h1, ?_, h3⟩, ⟨A', d', (c _).trans e1, e2, e3, ?_, e5⟩⟩
  · intro j b hj
    obtain ⟨a, rfl, hb, hc⟩ := h2 j b hj
    have hs := k.size
    exact ⟨a, rfl, by omega, (k.cell (by rw [block_add]; exact hb) (by rw [block_add]; exact far _ hb (h3 a rfl).1)).trans hc⟩
  · intro j e hj
    obtain ⟨b, o, rfl, hb, m1, m2⟩ := e4 j e hj
    have hs := k.size
    have hn := far b hb (e5 _ rfl).1
    exact ⟨b, o, rfl, by omega, (k.cell (p := ⟨b, o + j * 2, none⟩) hb hn).trans m1, (k.cell (p := ⟨b, o + j * 2 + 1, none⟩) hb hn).trans m2⟩
theorem RefAt.lt (h : RefAt Zp w g t) : g < w.heap.size := by obtain ⟨cs, h, _⟩ := h.blk; exact lt_of_block h
theorem RefAt.kept (h : RefAt Zp w g t) (k : KF w w') : RefAt Zp w' g t := by
  obtain ⟨cs, h1, h2⟩ := h.blk
  exact ⟨⟨cs, (k.block g h.lt (fun h => h)).trans h1, h2⟩, fun n hn => (h.node n hn).keep k h.lt (fun h => h) (fun _ h => h.elim), fun b hb => h.new b (Nat.le_trans k.size hb)⟩
theorem RefAt.free (h : RefAt Zp w g t) (j : Nat) : w.frozen? ⟨g, j, none⟩ = false := by
  obtain ⟨cs, h1, _⟩ := h.blk
  simp [World.frozen?, h1]
end
/-- What the reference says of an entry that is looked up. -/
def lookI : Option Nat → Int
  | some k => k
  | none => -1
theorem look_take_none {es : Row} {x : Txt} {k : Nat} (h : look (es.take k) x = none) (hk : k < es.length) (hx : es[k].1 ≠ x) : look (es.take (k + 1)) x = none := by
  rw [List.take_succ_eq_append_getElem hk, look_append, h]
  simp [look, hx]
theorem look_take_some {es : Row} {x : Txt} {k : Nat} (h : look (es.take k) x = none) (hk : k < es.length) (hx : es[k].1 = x) : look es x = some es[k].2 := by
  have e : es = es.take k ++ es[k] :: es.drop (k + 1) := by rw [List.getElem_cons_drop, List.take_append_drop]
  have : look (es.take k ++ es[k] :: es.drop (k + 1)) x = some es[k].2 := by
    rw [look_append, h]
    simp [look, hx]
  rwa [← e] at this
set_option maxRecDepth 100000 in
theorem rentry_any (w : World) (g : Nat) (t : Tr) (n : Nat) (x : Txt) (h : RefAt Zp w g t) (hn : n < 64) (hb : (t n).entries.length ≤ 1000000) :
    Calls Tryz.prog 92 #[.pointer (some ⟨g, 0, none⟩), .int .i64 n, .string (ba x)] w fun e w' => e = .returned (.int .i64 (lookI (look (t n).entries x))) ∧ KF w w' := by
  obtain ⟨A, c, h1, h2, h3, h4, h5⟩ := (h.node n hn).ents
  have hni : (n : Int) < 64 := by omega
  have HT := Lib.hid h4
  clear h h4 h5
  generalize (t n).entries = es at *
  obtain ⟨len, hlen⟩ : ∃ len, es.length = len := ⟨_, rfl⟩
  rw [hlen] at h1 h2 hb
  have HL := Lib.hid hlen
  clear hlen
  obtain ⟨sx, hsx⟩ : ∃ sx, ba x = sx := ⟨_, rfl⟩
  have HX := Lib.hid hsx
  rw [hsx]
  clear hsx
  have FIN : Hid (∀ z : Int, lookI (look es x) = z → ∀ X, KF w X → (Ending.returned (.int .i64 z) = .returned (.int .i64 (lookI (look es x))) ∧ KF w X)) := Lib.hid fun z hz X k => ⟨by rw [hz], k⟩
  have STOP := Lib.hid fun (k : Nat) (hk : k < es.length) (h0 : look (es.take k) x = none) (h : es[k].1 = x) => show lookI (look es x) = (es[k].2 : Int) by rw [look_take_some h0 hk h]; rfl
  have END := Lib.hid fun (h0 : look (es.take len) x = none) => show lookI (look es x) = -1 by rw [← HL.out, List.take_length] at h0; rw [h0]; rfl
  generalize lookI (look es x) = z0 at FIN STOP END ⊢
  go_enter Tryz.func92, Tryz.ntmps92
  go_wp2_with fail
  go_loopg [8] len (fun gh i wr => ∃ k : Nat, k ≤ len ∧ len - k ≤ gh ∧ i = .int .i64 k ∧ wr = w ∧ look (es.take k) x = none)
  case atStart => exact ⟨0, by omega, by omega, rfl, rfl, by simp [look]⟩
  case round =>
    obtain ⟨k, hk, hg, rfl, rfl, h0⟩ := hrel
    have H0 := Lib.hid h0
    clear h0
    rcases Nat.lt_or_ge k len with hlt | hge
    · have hlt' : (k : Int) < (len : Int) := by omega
      have q1 : k < es.length := by rw [HL.out]; exact hlt
      obtain ⟨b, o, rfl, hbb, n0, n1⟩ := HT.out.at_ q1
      by_cases he : es[k].1 = x
      · have hbe : ((ba es[k].1).toList == sx.toList) = true := by rw [he, HX.out]; simp
        have FN := Lib.hid (FIN.out _ (STOP.out k q1 H0.out he) wr (KF.refl _))
        clear FIN STOP END
        generalize ba es[k].1 = sy at *
        generalize (es[k].2 : Int) = zy at *
        go_wp2_with fail
        go_ret
        exact FN.out
      · have hbe : ((ba es[k].1).toList == sx.toList) = false := by
          rw [← HX.out, Lib.toList_data, Lib.toList_data]
          exact beq_eq_false_iff_ne.2 he
        have HN := Lib.hid (look_take_none H0.out q1 he)
        generalize ba es[k].1 = sy at *
        go_wp2_with fail
        go_roundg (len - (k + 1))
        case measure => omega
        case rel => exact ⟨k + 1, by omega, by omega, by go_num, rfl, HN.out⟩
    · obtain rfl : k = len := by omega
      have hlt' : ¬ (k : Int) < (k : Int) := by omega
      have FN := Lib.hid (FIN.out _ (END.out H0.out) wr (KF.refl _))
      go_wp2_with fail
      go_ret
      exact FN.out
end Go.Proofs.YtlkiaghpdjbfeaaGreatDoor

namespace Go.Proofs.YtlkiaghpdjbfeaaGreatDoor

/-- What the path of the first names is. -/
theorem above_def (ps : List Txt) (p : Txt) (hps : ps ≠ []) : joinM (ps ++ [p]) = joinM ps ++ 47 :: p := by
  induction ps with
  | nil => exact absurd rfl hps
  | cons a q ih =>
    cases q with
    | nil =>
      show joinM (a :: [p]) = _
      rw [joinM, joined_cons_cons, joinM, joined, joined, Lib.join_one, Lib.join_one]
      rfl
    | cons b r =>
      have := ih (by simp)
      simp only [joinM, List.cons_append] at this ⊢
      rw [joined_cons_cons, joined_cons_cons]
      injection this with _ this
      rw [this, List.append_assoc]
      rfl
theorem joinM_one (p : Txt) : joinM [p] = 47 :: p := by rw [joinM, joined, Lib.join_one]
end Go.Proofs.YtlkiaghpdjbfeaaGreatDoor

namespace Go.Proofs.YtlkiaghpdjbfeaaGreatDoor
open Go.RowKit
variable {Zp : Nat → Prop}

section
variable {w w' : World} {g n : Nat} {x : TNode} {t : Tr}
/-- The block, in 320 cells. -/
def Blk (w : World) (g : Nat) : Prop := ∃ cs, w.heap[g]? = some (.cells cs 58 (0, 0)) ∧ cs.size = 320
theorem Blk.set (h : Blk w g) (i : Nat) (v : Value) : Blk (w.setCell ⟨g, i, none⟩ v) g := by
  obtain ⟨cs, h1, h2⟩ := h
  exact ⟨_, Go.heap_setCell_same w g i cs _ v h1, by simp [h2]⟩
theorem Blk.some (h : Blk w g) {i : Nat} (hi : i < 320) : (w.cell? ⟨g, i, none⟩).isSome = true := by
  obtain ⟨cs, h1, h2⟩ := h
  simp [World.cell?, h1, h2, hi]
theorem Blk.same (h : Blk w g) {i : Nat} (hi : i < 320) (v : Value) : (w.setCell ⟨g, i, none⟩ v).cell? ⟨g, i, none⟩ = Option.some v :=
  World.cell?_setCell_same' w _ v (h.some hi)
theorem cell_other (w : World) (g : Nat) {i j : Nat} (h : i ≠ j) (v : Value) : (w.setCell ⟨g, i, none⟩ v).cell? ⟨g, j, none⟩ = w.cell? ⟨g, j, none⟩ :=
  World.cell?_setCell_other _ _ _ _ (by intro e; simp only [Addr.mk.injEq] at e; omega)
theorem RefAt.upd (h : RefAt Zp w g t) (hb : Blk w' g) (k : Keep (fun i => i = g) w w') (ho : ∀ m, m < 64 → m ≠ n → ∀ j, j < 5 → w'.cell? ⟨g, m * 5 + j, none⟩ = w.cell? ⟨g, m * 5 + j, none⟩) (hx : RNode Zp w' g n x) : RefAt Zp w' g (t.set n x) := by
  refine ⟨hb, fun m hm => ?_, fun b hb' => h.new b (Nat.le_trans k.size hb')⟩
  unfold Tr.set
  by_cases e : m = n
  · rw [if_pos e, e]
    exact hx
  · rw [if_neg e]
    have r := h.node m hm
    have c := ho m hm e
    obtain ⟨A, d, h1, h2, h3⟩ := r.data
    obtain ⟨A', d', e1, e2, e3, e4, e5⟩ := r.ents
    refine ⟨(c 0 (by omega)).trans r.num, (c 1 (by omega)).trans r.kind, (c 2 (by omega)).trans r.links, ⟨A, d, (c 3 (by omega)).trans h1, ?_, h3⟩, ⟨A', d', (c 4 (by omega)).trans e1, e2, e3, ?_, e5⟩⟩
    · exact (h2.keepS (Nat.le_refl _) k (fun a ha => (h3 a ha).1)).more k.size
    · exact (e4.keep (Nat.le_refl _) k (fun a ha => (e5 a ha).1)).more k.size
theorem keep1 (w : World) (g i : Nat) (v : Value) : Keep (fun k => k = g) w (w.setCell ⟨g, i, none⟩ v) := (Keep.refl (fun k => k = g) w).setCell (p := ⟨g, i, none⟩) (.inr rfl) v
theorem RefAt.setEnts (h : RefAt Zp w g t) (hn : n < 64) {A : Option Addr} {c l : Nat} {es : Row} (hl : l = es.length) (hc : l ≤ c) (hm : c ≤ maxLen) (he : Ents w w.heap.size A es) (hA : ∀ a : Addr, A = some a → a.block ≠ g) (hZ : ∀ a : Addr, A = some a → w.heap.size ≤ a.block ∨ Zp a.block) :
    RefAt Zp (w.setCell ⟨g, n * 5 + 4, none⟩ (.slice A l c)) g (t.rows n es) := by
  subst hl
  have k := keep1 w g (n * 5 + 4) (.slice A es.length c)
  have r := h.node n hn
  have c' : ∀ j, j < 4 → (w.setCell ⟨g, n * 5 + 4, none⟩ (.slice A es.length c)).cell? ⟨g, n * 5 + j, none⟩ = w.cell? ⟨g, n * 5 + j, none⟩ := fun j hj => cell_other w g (by omega) _
  obtain ⟨A1, d, h1, h2, h3⟩ := r.data
  refine h.upd (Blk.set h.blk _ _) k (fun m hm' hmn j hj => cell_other w g (by omega) _) ⟨(c' 0 (by omega)).trans r.num, (c' 1 (by omega)).trans r.kind, (c' 2 (by omega)).trans r.links, ⟨A1, d, (c' 3 (by omega)).trans h1, (h2.keepS (Nat.le_refl _) k (fun a ha => (h3 a ha).1)).more k.size, h3⟩, ⟨A, c, ?_, hc, hm, (he.keep (Nat.le_refl _) k hA).more k.size, fun a ha => ⟨hA a ha, fun _ => (hZ a ha).elim (h.new _) id⟩⟩⟩
  exact Blk.same h.blk (by omega) _
theorem RefAt.setData (h : RefAt Zp w g t) (hn : n < 64) {A : Option Addr} {c l : Nat} {b : Txt} (hl : l = b.length) (he : Rd w w.heap.size A b) (hA : ∀ a : Addr, A = some a → a.block ≠ g) (hZ : ∀ a : Addr, A = some a → w.heap.size ≤ a.block ∨ Zp a.block) :
    RefAt Zp (w.setCell ⟨g, n * 5 + 3, none⟩ (.slice A l c)) g (t.bytes n b) := by
  subst hl
  have k := keep1 w g (n * 5 + 3) (.slice A b.length c)
  have r := h.node n hn
  have c' : ∀ j, j ≠ 3 → j < 5 → (w.setCell ⟨g, n * 5 + 3, none⟩ (.slice A b.length c)).cell? ⟨g, n * 5 + j, none⟩ = w.cell? ⟨g, n * 5 + j, none⟩ := fun j hj _ => cell_other w g (by omega) _
  obtain ⟨A1, d, e1, e2, e3, e4, e5⟩ := r.ents
  refine h.upd (Blk.set h.blk _ _) k (fun m hm' hmn j hj => cell_other w g (by omega) _) ⟨(c' 0 (by omega) (by omega)).trans r.num, (c' 1 (by omega) (by omega)).trans r.kind, (c' 2 (by omega) (by omega)).trans r.links, ⟨A, c, ?_, (he.keepS (Nat.le_refl _) k hA).more k.size, fun a ha => ⟨hA a ha, fun _ => (hZ a ha).elim (h.new _) id⟩⟩, ⟨A1, d, (c' 4 (by omega) (by omega)).trans e1, e2, e3, (e4.keep (Nat.le_refl _) k (fun a ha => (e5 a ha).1)).more k.size, e5⟩⟩
  exact Blk.same h.blk (by omega) _
theorem RefAt.setLinks (h : RefAt Zp w g t) (hn : n < 64) (l : Nat) : RefAt Zp (w.setCell ⟨g, n * 5 + 2, none⟩ (.int .i64 (l : Int))) g (t.set n ⟨(t n).kind, l, (t n).data, (t n).entries⟩) := by
  have k := keep1 w g (n * 5 + 2) (.int .i64 (l : Int))
  have r := h.node n hn
  have c' : ∀ j, j ≠ 2 → j < 5 → (w.setCell ⟨g, n * 5 + 2, none⟩ (.int .i64 (l : Int))).cell? ⟨g, n * 5 + j, none⟩ = w.cell? ⟨g, n * 5 + j, none⟩ := fun j hj _ => cell_other w g (by omega) _
  obtain ⟨A1, d, e1, e2, e3, e4, e5⟩ := r.ents
  obtain ⟨A2, d2, h1, h2, h3⟩ := r.data
  refine h.upd (Blk.set h.blk _ _) k (fun m hm' hmn j hj => cell_other w g (by omega) _) ⟨(c' 0 (by omega) (by omega)).trans r.num, (c' 1 (by omega) (by omega)).trans r.kind, ?_, ⟨A2, d2, (c' 3 (by omega) (by omega)).trans h1, (h2.keepS (Nat.le_refl _) k (fun a ha => (h3 a ha).1)).more k.size, h3⟩, ⟨A1, d, (c' 4 (by omega) (by omega)).trans e1, e2, e3, (e4.keep (Nat.le_refl _) k (fun a ha => (e5 a ha).1)).more k.size, e5⟩⟩
  exact Blk.same h.blk (by omega) _
/-- A node with neither bytes nor entries is laid over another one. -/
theorem RefAt.setNode (h : RefAt Zp w g t) (hn : n < 64) (kd l : Nat) (z : Int) (hz : z = ((if kd = 0 then 0 else n : Nat) : Int)) :
    RefAt Zp (((((w.setCell ⟨g, n * 5, none⟩ (.int .i64 z)).setCell ⟨g, n * 5 + 1, none⟩ (.int .i64 (kd : Int))).setCell ⟨g, n * 5 + 2, none⟩ (.int .i64 (l : Int))).setCell ⟨g, n * 5 + 3, none⟩ (.slice none 0 0)).setCell ⟨g, n * 5 + 4, none⟩ (.slice none 0 0)) g (t.set n ⟨kd, l, [], []⟩) := by
  have b1 := Blk.set h.blk (n * 5) (.int .i64 z)
  have b2 := Blk.set b1 (n * 5 + 1) (.int .i64 (kd : Int))
  have b3 := Blk.set b2 (n * 5 + 2) (.int .i64 (l : Int))
  have b4 := Blk.set b3 (n * 5 + 3) (.slice none 0 0)
  have b5 := Blk.set b4 (n * 5 + 4) (.slice none 0 0)
  have tr : ∀ {a b c : World}, Keep (fun k => k = g) a b → Keep (fun k => k = g) b c → Keep (fun k => k = g) a c := fun p q => Keep.trans p q (fun _ _ h => h)
  refine h.upd b5 (tr (tr (tr (tr (keep1 _ g _ _) (keep1 _ g _ _)) (keep1 _ g _ _)) (keep1 _ g _ _)) (keep1 _ g _ _)) (fun m hm' hmn j hj => ?_) ⟨?_, ?_, ?_, ⟨none, 0, ?_, fun j b hj => by simp at hj, fun a e => by cases e⟩, ⟨none, 0, ?_, Nat.zero_le _, Nat.zero_le _, Ents.nil, fun a e => by cases e⟩⟩
  · rw [cell_other _ g (by omega), cell_other _ g (by omega), cell_other _ g (by omega), cell_other _ g (by omega), cell_other _ g (by omega)]
  · rw [cell_other _ g (by omega), cell_other _ g (by omega), cell_other _ g (by omega), cell_other _ g (by omega), Blk.same h.blk (by omega), hz]
  · rw [cell_other _ g (by omega), cell_other _ g (by omega), cell_other _ g (by omega), Blk.same b1 (by omega)]
  · rw [cell_other _ g (by omega), cell_other _ g (by omega), Blk.same b2 (by omega)]
  · rw [cell_other _ g (by omega), Blk.same b3 (by omega)]; rfl
  · rw [Blk.same b4 (by omega)]; rfl
theorem keep5 (w : World) (g a b c d e : Nat) (v0 v1 v2 v3 v4 : Value) : Keep (fun k => k = g) w (((((w.setCell ⟨g, a, none⟩ v0).setCell ⟨g, b, none⟩ v1).setCell ⟨g, c, none⟩ v2).setCell ⟨g, d, none⟩ v3).setCell ⟨g, e, none⟩ v4) := by
  have tr : ∀ {a b c : World}, Keep (fun k => k = g) a b → Keep (fun k => k = g) b c → Keep (fun k => k = g) a c := fun p q => Keep.trans p q (fun _ _ h => h)
  exact tr (tr (tr (tr (keep1 _ g _ _) (keep1 _ g _ _)) (keep1 _ g _ _)) (keep1 _ g _ _)) (keep1 _ g _ _)
/-- A change in a block that holds neither bytes nor texts leaves the tree. -/
theorem RefAt.keepFar (h : RefAt Zp w g t) {c : Nat} {cs : Array Value} {T : TypeId} {fr : Nat × Nat} (hc : w.heap[c]? = some (.cells cs T fr)) (hu : ∀ x ∈ cs.toList, ∀ z, x ≠ .int .u8 z) (hs : ∀ x ∈ cs.toList, ∀ z, x ≠ .string z) (k : Keep (fun i => i = c) w w') (hg : c ≠ g) : RefAt Zp w' g t := by
  have hl := h.lt
  have cc : ∀ j, w'.cell? ⟨g, j, none⟩ = w.cell? ⟨g, j, none⟩ := fun j => k.cell (p := ⟨g, j, none⟩) hl (by show ¬ g = c; omega)
  obtain ⟨ds, hb1, hb2⟩ := h.blk
  refine ⟨⟨ds, (k.block g hl (by omega)).trans hb1, hb2⟩, fun n hn => ?_, fun b hb => h.new b (Nat.le_trans k.size hb)⟩
  have r := h.node n hn
  obtain ⟨A, d, h1, h2, h3⟩ := r.data
  obtain ⟨A', d', e1, e2, e3, e4, e5⟩ := r.ents
  refine ⟨(cc _).trans r.num, (cc _).trans r.kind, (cc _).trans r.links, ⟨A, d, (cc _).trans h1, fun j b hj => ?_, h3⟩, ⟨A', d', (cc _).trans e1, e2, e3, fun j e hj => ?_, e5⟩⟩
  · obtain ⟨a, rfl, hb, hcell⟩ := h2 j b hj
    have hjl : j < (t n).data.length := by
      rcases Nat.lt_or_ge j (t n).data.length with h' | h'
      · exact h'
      · rw [List.getElem?_eq_none h'] at hj; cases hj
    have hne := h2.far hc hu j hjl a rfl
    have hsz := k.size
    exact ⟨a, rfl, by omega, (k.cell (by rw [block_add]; exact hb) (by rw [block_add]; exact hne)).trans hcell⟩
  · obtain ⟨b, o, rfl, hb, m1, m2⟩ := e4 j e hj
    have hne : b ≠ c := by
      rintro rfl
      simp only [World.cell?, hc] at m1
      have hm : Value.string (ba e.1) ∈ cs.toList := by
        have : cs[o + j * 2]? = some (.string (ba e.1)) := by simpa using m1
        exact Array.mem_toList_iff.2 (Array.mem_of_getElem? this)
      exact hs _ hm _ rfl
    have hsz := k.size
    exact ⟨b, o, rfl, by omega, (k.cell (p := ⟨b, o + j * 2, none⟩) hb hne).trans m1, (k.cell (p := ⟨b, o + j * 2 + 1, none⟩) hb hne).trans m2⟩
end
end Go.Proofs.YtlkiaghpdjbfeaaGreatDoor

namespace Go.Proofs.YtlkiaghpdjbfeaaGreatDoor
open Go.RowKit
variable {Zp : Nat → Prop}

theorem rent_law : Et Tryz.prog 53 64 :=
  ⟨Tryz.underlying53, (Tryz.prog.info? 64).get (by kernel_rfl), .agg #[.string ⟨#[]⟩, .int .i64 0], by kernel_rfl, by kernel_rfl, by kernel_rfl, by kernel_rfl, by kernel_rfl⟩
theorem drop_take {es : Row} {x : Txt} {k : Nat} (hk : k < es.length) : drop (es.take (k + 1)) x = drop (es.take k) x ++ (if es[k].1 = x then [] else [es[k]]) := by
  rw [List.take_succ_eq_append_getElem hk]
  unfold drop
  rw [List.filter_append]
  by_cases h : es[k].1 = x
  · rw [if_pos h]; simp [h]
  · rw [if_neg h]; simp [h]
set_option maxRecDepth 100000 in
theorem rdrop_any (w : World) (g : Nat) (t : Tr) (n : Nat) (x : Txt) (h : RefAt Zp w g t) (hn : n < 64) (hb : (t n).entries.length ≤ 1000000) :
    Calls Tryz.prog 57 #[.pointer (some ⟨g, 0, none⟩), .int .i64 n, .string (ba x)] w fun e w' => e = .returned (.tuple #[]) ∧ Keep (fun i => i = g) w w' ∧ RefAt Zp w' g (t.rows n (drop (t n).entries x)) := by
  obtain ⟨A, c, h1, h2, h3, h4, h5⟩ := (h.node n hn).ents
  have hni : (n : Int) < 64 := by omega
  have HT := Lib.hid h4
  have HLT := Lib.hid h.lt
  have HR := Lib.hid fun W (k : KF w W) => h.kept k
  have FIN : Hid (∀ (W : World) (A' : Option Addr) (n' c' : Nat), KF w W → OwnE 64 W (.slice A' n' c') (drop (t n).entries x) → NB w (.slice A' n' c') → Keep (fun i => i = g) w (W.setCell ⟨g, n * 5 + 4, none⟩ (.slice A' n' c')) ∧ RefAt Zp (W.setCell ⟨g, n * 5 + 4, none⟩ (.slice A' n' c')) g (t.rows n (drop (t n).entries x))) := Lib.hid (by
    intro W A' n' c' k o nb
    obtain ⟨A1, c1, e1, e2, e3, e4, e5⟩ := o.shape
    injection e1 with e1 e6 e7
    subst e1 e6 e7
    refine ⟨Keep.trans (Keep.mono k (fun _ _ h => h.elim)) (keep1 W g _ _) (fun i hi hs => hs), (h.kept k).setEnts hn rfl e2 e3 e4 (fun a ha => ?_) (fun a ha => .inr (h.new _ (nb _ (e5 a ha))))⟩
    have := nb _ (e5 a ha)
    have := h.lt
    omega)
  clear h h4 h5
  generalize t.rows n (drop (t n).entries x) = T2 at *
  generalize (t n).entries = es at *
  obtain ⟨len, hlen⟩ : ∃ len, es.length = len := ⟨_, rfl⟩
  rw [hlen] at h1 h2 hb
  have HL := Lib.hid hlen
  clear hlen
  obtain ⟨sx, hsx⟩ : ∃ sx, ba x = sx := ⟨_, rfl⟩
  have HX := Lib.hid hsx
  rw [hsx]
  clear hsx
  go_enter Tryz.func57, Tryz.ntmps57
  go_wp2_with fail
  go_loopg [7, 8] len (fun gh s7 i wr => ∃ (k n' c' : Nat) (A' : Option Addr), k ≤ len ∧ len - k ≤ gh ∧ s7 = .slice A' n' c' ∧ i = .int .i64 k ∧ OwnE 64 wr (.slice A' n' c') (drop (es.take k) x) ∧ NB w (.slice A' n' c') ∧ KF w wr)
  case atStart => exact ⟨0, 0, 0, _, by omega, by omega, rfl, rfl, OwnE.empty _ _, NB.new (Nat.le_refl _) _ _, (KF.refl _).alloc _⟩
  case round =>
    obtain ⟨k, n', c', A', hk, hg, rfl, rfl, ho, hnb, kr⟩ := hrel
    rcases Nat.lt_or_ge k len with hlt | hge
    · have hlt' : (k : Int) < (len : Int) := by omega
      have q1 : k < es.length := by rw [HL.out]; exact hlt
      obtain ⟨b, o, rfl, hbb, n0, n1⟩ := ((HT.out.keep (Nat.le_refl _) kr (fun _ _ h => h)).more kr.size).at_ q1
      have HTK := Lib.hid (drop_take (x := x) q1)
      have hdl : (drop (es.take k) x).length ≤ k := by
        refine Nat.le_trans (List.length_filter_le _ _) ?_
        rw [List.length_take]; omega
      by_cases he : es[k].1 = x
      · have hbe : ((ba es[k].1).toList == sx.toList) = true := by rw [he, HX.out]; simp
        have hbe2 : ((ba es[k].1).toList != sx.toList) = false := by rw [bne, hbe]; rfl
        have HE : Hid (drop (es.take (k + 1)) x = drop (es.take k) x) := Lib.hid (by rw [HTK.out, if_pos he, List.append_nil])
        clear he
        generalize ba es[k].1 = sy at *
        go_wp2_with fail
        go_roundg (len - (k + 1))
        case measure => omega
        case rel => exact ⟨k + 1, n', c', A', by omega, by omega, rfl, by go_num, by rw [HE.out]; exact ho, hnb, kr⟩
      · have hbe : ((ba es[k].1).toList == sx.toList) = false := by
          rw [← HX.out, Lib.toList_data, Lib.toList_data]
          exact beq_eq_false_iff_ne.2 he
        have hbe2 : ((ba es[k].1).toList != sx.toList) = true := by rw [bne, hbe]; rfl
        have HE : Hid (drop (es.take (k + 1)) x = drop (es.take k) x ++ [es[k]]) := Lib.hid (by rw [HTK.out, if_neg he])
        clear he HTK
        generalize es[k] = e at *
        have hb2 : (drop (es.take k) x).length + [e].length ≤ 1000000000 := by simp only [List.length_cons, List.length_nil]; omega
        have ON := Lib.hid (ents_one wr e 64)
        obtain ⟨sy, hsy⟩ : ∃ sy, ba e.1 = sy := ⟨_, rfl⟩
        rw [hsy] at n0 hbe hbe2 ON
        clear hsy
        go_wp2_with (at_builtin; refine wpList_append_ent _ rfl _ _ _ rfl rent_law (.slice A' n' c') (drop (es.take k) x) rfl (ho.alloc _) (wr.heap.size + 1) (some ⟨wr.heap.size, 0, none⟩) 1 1 [e] rfl rfl ON.out hb2 ?_; intro A4 n4 c4 w4 o4 e4 h4 m4 g4 f4)
        have k4 := (kr.alloc (.cells #[.string sy, .int .i64 (e.2 : Int)] 64)).own g4 hnb
        go_roundg (len - (k + 1))
        case measure => omega
        case rel =>
          rw [← HE.out] at o4
          exact ⟨k + 1, n4, c4, A4, by omega, by omega, rfl, by go_num, o4, hnb.next (Nat.le_trans kr.size (by simp)) f4, k4⟩
    · obtain rfl : k = len := by omega
      have hlt' : ¬ (k : Int) < (k : Int) := by omega
      have ce := (HR.out wr kr).node n hn
      have cf := (HR.out wr kr).free (n * 5 + 4)
      obtain ⟨A2, c2, ce1, _⟩ := ce.ents
      rw [← HL.out, List.take_length] at ho
      have FN := Lib.hid (FIN.out wr A' n' c' kr ho hnb)
      clear ce HR HT
      go_wp2_with fail
      go_end0
      exact ⟨rfl, FN.out.1, FN.out.2⟩
/-- What the reference says of an entry more. -/
theorem put_take {es : Row} {x : Txt} {k m : Nat} (hk : k ≤ es.length) (h1 : ∀ e ∈ es.take k, less e.1 x = true) (h2 : ∀ e, es[k]? = some e → less e.1 x = false) : put es x m = es.take k ++ [(x, m)] ++ es.drop k := by
  have key : ∀ (es : Row) (k : Nat), k ≤ es.length → (∀ e ∈ es.take k, less e.1 x = true) → (∀ e, es[k]? = some e → less e.1 x = false) → es.takeWhile (fun e => less e.1 x) = es.take k ∧ es.dropWhile (fun e => less e.1 x) = es.drop k := by
    intro es
    induction es with
    | nil => intro k hk _ _; simp at hk; subst hk; exact ⟨rfl, rfl⟩
    | cons a r ih =>
      intro k hk h1 h2
      cases k with
      | zero =>
        have := h2 a rfl
        exact ⟨by rw [List.takeWhile_cons, this]; rfl, by rw [List.dropWhile_cons, this]; rfl⟩
      | succ k =>
        have ha := h1 a (by simp)
        obtain ⟨i1, i2⟩ := ih k (by simpa using hk) (fun e he => h1 e (by simp [he])) (fun e he => h2 e (by simpa using he))
        exact ⟨by rw [List.takeWhile_cons, ha]; simp [i1], by rw [List.dropWhile_cons, ha]; simp [i2]⟩
  obtain ⟨a, b⟩ := key es k hk h1 h2
  unfold put
  rw [a, b]
  simp
end Go.Proofs.YtlkiaghpdjbfeaaGreatDoor

namespace Go.Proofs.YtlkiaghpdjbfeaaGreatDoor
open Go.RowKit

theorem ru8_law : U8 Tryz.prog 29 5 := ⟨Tryz.underlying29, (Tryz.prog.info? 5).get (by kernel_rfl), by kernel_rfl, by kernel_rfl, by kernel_rfl, by kernel_rfl⟩
theorem sized_more (b : Txt) {k : Nat} (h : k < b.length) : sized b (k + 1) = sized b k ++ [b[k]] := by
  unfold sized
  have e1 : k - b.length = 0 := by omega
  have e2 : k + 1 - b.length = 0 := by omega
  rw [e1, e2, List.take_succ_eq_append_getElem h]
  simp
theorem sized_nought (b : Txt) {k : Nat} (h : b.length ≤ k) : sized b (k + 1) = sized b k ++ [0] := by
  unfold sized
  have e1 : k + 1 - b.length = (k - b.length) + 1 := by omega
  rw [e1, List.replicate_succ', List.take_of_length_le h, List.take_of_length_le (by omega), List.append_assoc]
theorem sized_zero (b : Txt) : sized b 0 = [] := by simp [sized]
/-- Bytes of the reference's own. -/
def RSized (b : Txt) (w : World) (e : Ending) (w' : World) : Prop := ∃ A' n' c', e = .returned (.slice A' n' c') ∧ Own 5 w' (.slice A' n' c') b ∧ NB w (.slice A' n' c') ∧ KF w w'
set_option maxRecDepth 100000 in
theorem rsize_any (A : Option Addr) (b : Txt) (n c m : Nat) (w : World) (hn : n = b.length) (hm : m ≤ 1000000) (_hb : n ≤ 1000000) (hr : Rd w w.heap.size A b) :
    Calls Tryz.prog 59 #[.slice A n c, .int .i64 m] w (RSized (sized b m) w) := by
  have HR := Lib.hid hr
  have HN := Lib.hid hn
  clear hr hn
  go_enter Tryz.func59, Tryz.ntmps59
  go_wp2_with fail
  go_loopg [5, 6] m (fun gh s5 i wr => ∃ (k n' c' : Nat) (A' : Option Addr), k ≤ m ∧ m - k ≤ gh ∧ s5 = .slice A' n' c' ∧ i = .int .i64 k ∧ Own 5 wr (.slice A' n' c') (sized b k) ∧ NB w (.slice A' n' c') ∧ KF w wr)
  case atStart => exact ⟨0, 0, 0, _, by omega, by omega, rfl, rfl, by rw [sized_zero]; exact Own.lit 5 _ [] (by decide), NB.new (Nat.le_refl _) _ _, (KF.refl _).alloc _⟩
  case round =>
    obtain ⟨k, n', c', A', hk, hg, rfl, rfl, ho, hnb, kr⟩ := hrel
    have hsl := sized_length b k
    rcases Nat.lt_or_ge k m with hlt | hge
    · have hlt' : (k : Int) < (m : Int) := by omega
      rcases Nat.lt_or_ge k n with hkn | hkn
      · have hkn' : (k : Int) < (n : Int) := by omega
        have q1 : k < b.length := by rw [← HN.out]; exact hkn
        obtain ⟨a, rfl, hab, hc0⟩ := HR.out k b[k] (List.getElem?_eq_getElem q1)
        have hc1 := (KF.cell kr (p := a.add k) (by rw [block_add]; exact hab)).trans hc0
        have HS := Lib.hid (sized_more b q1)
        generalize b[k] = y at *
        have hb2 : (sized b k).length + [y].length ≤ 70368744177664 := by rw [hsl]; simp; omega
        have RL := Lib.hid (Rd.lit wr 5 (0, 0) [y] #[.int .u8 y.toNat] rfl)
        clear hc0 hsl
        go_wp2_with (at_builtin; refine wpList_append_u8 _ rfl _ _ _ rfl ru8_law (.slice A' n' c') (sized b k) rfl (ho.alloc _) (wr.heap.size + 1) (some ⟨wr.heap.size, 0, none⟩) 1 1 [y] rfl rfl RL.out hb2 ?_; intro A4 n4 c4 w4 o4 e4 h4 m4 g4 f4)
        have k4 := (kr.alloc (.cells #[.int .u8 y.toNat] 5)).own g4 hnb
        go_roundg (m - (k + 1))
        case measure => omega
        case rel =>
          rw [← HS.out] at o4
          exact ⟨k + 1, n4, c4, A4, by omega, by omega, rfl, by go_num, o4, hnb.next (Nat.le_trans kr.size (by simp)) f4, k4⟩
      · have hkn' : ¬ (k : Int) < (n : Int) := by omega
        have HS := Lib.hid (sized_nought b (k := k) (by rw [← HN.out]; exact hkn))
        have hb2 : (sized b k).length + [(0 : UInt8)].length ≤ 70368744177664 := by rw [hsl]; simp; omega
        have RL := Lib.hid (Rd.lit wr 5 (0, 0) [0] #[.int .u8 0] rfl)
        clear hsl
        go_wp2_with (at_builtin; refine wpList_append_u8 _ rfl _ _ _ rfl ru8_law (.slice A' n' c') (sized b k) rfl (ho.alloc _) (wr.heap.size + 1) (some ⟨wr.heap.size, 0, none⟩) 1 1 [0] rfl rfl RL.out hb2 ?_; intro A4 n4 c4 w4 o4 e4 h4 m4 g4 f4)
        have k4 := (kr.alloc (.cells #[.int .u8 0] 5)).own g4 hnb
        go_roundg (m - (k + 1))
        case measure => omega
        case rel =>
          rw [← HS.out] at o4
          exact ⟨k + 1, n4, c4, A4, by omega, by omega, rfl, by go_num, o4, hnb.next (Nat.le_trans kr.size (by simp)) f4, k4⟩
    · obtain rfl : k = m := by omega
      have hlt' : ¬ (k : Int) < (k : Int) := by omega
      clear hsl
      go_wp2_with fail
      go_ret
      exact ⟨A', n', c', rfl, ho, hnb, kr⟩
end Go.Proofs.YtlkiaghpdjbfeaaGreatDoor

namespace Go.Proofs.YtlkiaghpdjbfeaaGreatDoor

/-- The root, and in it the file f. -/
def fileT (b : Txt) : Tr := fun n => if n = 0 then ⟨1, 1, [], [([102], 1)]⟩ else if n = 1 then ⟨2, 1, b, []⟩ else noNode
theorem path_f : pathM [47, 102] = some [[102]] := by decide
theorem find_f (b : Txt) : find (fileT b) [47, 102] = .ok 1 := by
  unfold find
  rw [path_f]
  rfl
theorem findFile_f (b : Txt) : findFile (fileT b) [47, 102] = .ok 1 := by
  unfold findFile
  rw [find_f]
  rfl
theorem bytes_f (b b' : Txt) : (fileT b).bytes 1 b' = fileT b' := by
  funext n
  unfold Tr.bytes Tr.set fileT
  by_cases h1 : n = 1
  · subst h1; rfl
  · by_cases h0 : n = 0
    · subst h0; rfl
    · rw [if_neg h1, if_neg h0, if_neg h1, if_neg h0, if_neg h1]
theorem make_f (c : TCall) (hk : c.kind = 3) (hp : c.path = [47, 102]) : doT newT c = (okA, fileT []) := by
  refine doT_cases newT c (fun r => r = (okA, fileT [])) ?_ ?_ ?_ ?_ ?_ ?_ ?_ ?_ ?_ ?_ ?_ ?_ ?_
  case refine_3 =>
    intro _
    rw [hp]
    have hpl : place newT [47, 102] = .ok (0, [102]) := place_of (ns := []) path_f rfl rfl rfl
    have hl : least newT = some 1 := by rfl
    unfold doMake
    rw [hpl]
    simp only [hl]
    congr 1
    funext n
    by_cases h0 : n = 0
    · subst h0; rfl
    · by_cases h1 : n = 1
      · subst h1; rfl
      · unfold Tr.rows Tr.set fileT newT
        rw [if_neg h0, if_neg h1, if_neg h0, if_neg h0, if_neg h1]
  all_goals (intro h; omega)
theorem write_f (b : Txt) (c : TCall) (hk : c.kind = 7) (hp : c.path = [47, 102]) :
    doT (fileT b) c = if c.off < 0 ∨ 256 < c.data.length then (errA 1, fileT b) else if 512 < c.off.toNat + c.data.length then (errA 27, fileT b) else (okA, fileT (written b c.off.toNat c.data)) := by
  refine doT_cases (fileT b) c (fun r => r = _) ?_ ?_ ?_ ?_ ?_ ?_ ?_ ?_ ?_ ?_ ?_ ?_ ?_
  case refine_7 =>
    intro _
    rw [hp]
    unfold doWrite
    rw [findFile_f]
    simp only [bytes_f]
    rfl
  all_goals (intro h; omega)
theorem read_f (b : Txt) (c : TCall) (hk : c.kind = 8) (hp : c.path = [47, 102]) (h1 : 0 ≤ c.off) (h2 : 0 ≤ c.n) (h3 : c.n ≤ 256) : doT (fileT b) c = (⟨0, 0, 0, 0, (b.drop c.off.toNat).take c.n.toNat, []⟩, fileT b) := by
  refine doT_cases (fileT b) c (fun r => r = _) ?_ ?_ ?_ ?_ ?_ ?_ ?_ ?_ ?_ ?_ ?_ ?_ ?_
  case refine_8 =>
    intro _
    rw [hp]
    unfold doRead
    rw [findFile_f]
    simp only
    rw [if_neg (by omega)]
    rfl
  all_goals (intro h; omega)
theorem cut_f (b : Txt) (c : TCall) (hk : c.kind = 9) (hp : c.path = [47, 102]) (h2 : 0 ≤ c.n) (h3 : c.n ≤ 512) : doT (fileT b) c = (okA, fileT (sized b c.n.toNat)) := by
  refine doT_cases (fileT b) c (fun r => r = _) ?_ ?_ ?_ ?_ ?_ ?_ ?_ ?_ ?_ ?_ ?_ ?_ ?_
  case refine_9 =>
    intro _
    rw [hp]
    unfold doCut
    rw [findFile_f]
    simp only [bytes_f]
    rw [if_neg (by omega), if_neg (by omega)]
    rfl
  all_goals (intro h; omega)
theorem stat_f (b : Txt) (c : TCall) (hk : c.kind = 10) (hp : c.path = [47, 102]) : doT (fileT b) c = (⟨0, 2, b.length, 1, [], []⟩, fileT b) := by
  refine doT_cases (fileT b) c (fun r => r = _) ?_ ?_ ?_ ?_ ?_ ?_ ?_ ?_ ?_ ?_ ?_ ?_ ?_
  case refine_10 =>
    intro _
    rw [hp]
    unfold doStat
    rw [find_f]
    rfl
  all_goals (intro h; omega)

theorem sized_get (b : Txt) (n j : Nat) : (sized b n)[j]? = if j < n then some (b.getD j 0) else none := by
  unfold sized
  by_cases h : j < min n b.length
  · rw [List.getElem?_append_left (by rw [List.length_take]; exact h), List.getElem?_take, if_pos (by omega), if_pos (by omega), List.getD, List.getElem?_eq_getElem (by omega)]
    rfl
  · rw [List.getElem?_append_right (by rw [List.length_take]; omega), List.getElem?_replicate, List.length_take]
    by_cases h2 : j < n
    · rw [if_pos (by omega), if_pos h2, List.getD, List.getElem?_eq_none (by omega)]
      rfl
    · rw [if_neg (by omega), if_neg h2]
theorem over_get {b d : Txt} {off : Nat} (h : off + d.length ≤ b.length) (j : Nat) : (over b off d)[j]? = if off ≤ j ∧ j < off + d.length then d[j - off]? else b[j]? := by
  unfold over
  have ht : (b.take off).length = off := by rw [List.length_take]; omega
  by_cases h1 : j < off
  · rw [List.append_assoc, List.getElem?_append_left (by omega), List.getElem?_take, if_pos h1, if_neg (by omega)]
  · by_cases h2 : j < off + d.length
    · rw [List.append_assoc, List.getElem?_append_right (by omega), List.getElem?_append_left (by omega), ht, if_pos ⟨by omega, h2⟩]
    · rw [List.getElem?_append_right (by rw [List.length_append]; omega), List.length_append, ht, List.getElem?_drop, if_neg (by omega)]
      congr 1
      omega
theorem written_get {b d : Txt} {off : Nat} (hd : d ≠ []) (j : Nat) : (written b off d)[j]? = if j < max b.length (off + d.length) then some (if off ≤ j ∧ j < off + d.length then d.getD (j - off) 0 else b.getD j 0) else none := by
  unfold written
  rw [if_neg hd, over_get (by rw [sized_length]; omega), sized_get]
  by_cases h1 : off ≤ j ∧ j < off + d.length
  · rw [if_pos h1, if_pos h1, if_pos (by omega), List.getD, List.getElem?_eq_getElem (by omega)]
    rfl
  · rw [if_neg h1, if_neg h1]
/-- Noughts behind, up to a place; a byte there. -/
def reach (l : Txt) (n : Nat) : Txt := l ++ List.replicate (n + 1 - l.length) 0
theorem reach_get (l : Txt) (n j : Nat) : (reach l n)[j]? = if j < max l.length (n + 1) then some (l.getD j 0) else none := by
  unfold reach
  by_cases h : j < l.length
  · rw [List.getElem?_append_left h, if_pos (by omega), List.getD, List.getElem?_eq_getElem h]
    rfl
  · rw [List.getElem?_append_right (by omega), List.getElem?_replicate]
    by_cases h2 : j < n + 1
    · rw [if_pos (by omega), if_pos (by omega), List.getD, List.getElem?_eq_none (by omega)]
      rfl
    · rw [if_neg (by omega), if_neg (by omega)]
theorem reach_length (l : Txt) (n : Nat) : (reach l n).length = max l.length (n + 1) := by
  unfold reach
  rw [List.length_append, List.length_replicate]
  omega
theorem getD_of_get {l m : Txt} {i j : Nat} (h : l[i]? = m[j]?) : l.getD i 0 = m.getD j 0 := by rw [List.getD, List.getD, h]
/-- A byte more that is written. -/
theorem written_step (b : Txt) (off : Nat) (d : Txt) (k : Nat) (hk : k < d.length) : written b off (d.take (k + 1)) = (reach (written b off (d.take k)) (off + k)).set (off + k) d[k] := by
  have hl : (d.take (k + 1)).length = k + 1 := by rw [List.length_take]; omega
  have hl0 : (d.take k).length = k := by rw [List.length_take]; omega
  have hne : d.take (k + 1) ≠ [] := fun h => by rw [h] at hl; simp at hl
  have hwl : (written b off (d.take k)).length = if k = 0 then b.length else max b.length (off + k) := by
    unfold written
    by_cases h0 : k = 0
    · subst h0
      rw [if_pos (by simp), if_pos rfl]
    · rw [if_neg (fun h => h0 (by rw [h] at hl0; exact hl0.symm)), over_length (by rw [sized_length]; omega), sized_length, hl0, if_neg h0]
  apply List.ext_getElem?
  intro j
  have L := written_get (b := b) (off := off) hne j
  rw [hl] at L
  rw [L, List.getElem?_set, reach_length]
  by_cases hj : off + k = j
  · have c1 : j < max b.length (off + (k + 1)) := by omega
    have c2 : off ≤ j ∧ j < off + (k + 1) := by omega
    have c3 : off + k < max (written b off (d.take k)).length (off + k + 1) := by omega
    have e : j - off = k := by omega
    rw [if_pos c1, if_pos c2, if_pos hj, if_pos c3, e, List.getD, List.getElem?_take, if_pos (Nat.lt_succ_self k), List.getElem?_eq_getElem hk]
    rfl
  · rw [if_neg hj, reach_get]
    by_cases h0 : k = 0
    · subst h0
      have hw0 : written b off (d.take 0) = b := by unfold written; rw [if_pos (by simp)]
      have c0 : ¬ (off ≤ j ∧ j < off + (0 + 1)) := by omega
      rw [hw0, if_neg c0]
    · rw [if_neg h0] at hwl
      rw [hwl]
      by_cases h1 : j < max b.length (off + (k + 1))
      · have h2 : j < max (max b.length (off + k)) (off + k + 1) := by omega
        have h3 : j < max b.length (off + k) := by omega
        rw [if_pos h1, if_pos h2]
        congr 1
        have hne0 : d.take k ≠ [] := fun h => h0 (by rw [h] at hl0; exact hl0.symm)
        have hg := written_get (b := b) (off := off) hne0 j
        rw [hl0, if_pos h3] at hg
        have hr : (written b off (d.take k)).getD j 0 = if off ≤ j ∧ j < off + k then (d.take k).getD (j - off) 0 else b.getD j 0 := by
          rw [List.getD, hg]
          rfl
        rw [hr]
        by_cases h4 : off ≤ j ∧ j < off + k
        · have h5 : off ≤ j ∧ j < off + (k + 1) := by omega
          rw [if_pos h5, if_pos h4]
          apply getD_of_get
          have h6 : j - off < k + 1 := by omega
          have h7 : j - off < k := by omega
          rw [List.getElem?_take, List.getElem?_take, if_pos h6, if_pos h7]
        · have h5 : ¬ (off ≤ j ∧ j < off + (k + 1)) := by omega
          rw [if_neg h5, if_neg h4]
      · have h2 : ¬ j < max (max b.length (off + k)) (off + k + 1) := by omega
        rw [if_neg h1, if_neg h2]
theorem written_all (b : Txt) (off : Nat) (d : Txt) : written b off (d.take d.length) = written b off d := by rw [List.take_length]
theorem written_none (b : Txt) (off : Nat) (d : Txt) : written b off (d.take 0) = b := by unfold written; rw [if_pos (by simp)]
/-- What is read, piece by piece. -/
theorem read_all {b : Txt} (h : b.length ≤ 512) : (b.drop 0).take 256 ++ (b.drop 256).take 256 = b := by
  rw [List.drop_zero]
  conv => rhs; rw [← List.take_append_drop 256 b]
  congr 1
  exact List.take_of_length_le (by rw [List.length_drop]; omega)
/-- What stands at a place when all but the first bytes was cut, and came back. -/
theorem cut_back (b : Txt) {k j : Nat} (hj : j < 512) : ((sized (sized b k) 512).drop j).take 1 = [if j < k ∧ j < b.length then b.getD j 0 else 0] := by
  have hg : (sized (sized b k) 512)[j]? = some (if j < k ∧ j < b.length then b.getD j 0 else 0) := by
    rw [sized_get, if_pos hj]
    congr 1
    rw [List.getD, sized_get]
    by_cases h1 : j < k
    · rw [if_pos h1]
      by_cases h2 : j < b.length
      · rw [if_pos ⟨h1, h2⟩]; rfl
      · rw [if_neg (fun h => h2 h.2)]
        show b.getD j 0 = 0
        rw [List.getD, List.getElem?_eq_none (by omega)]
        rfl
    · rw [if_neg h1, if_neg (fun h => h1 h.1)]
      rfl
  have hlt : j < (sized (sized b k) 512).length := by rw [sized_length]; exact hj
  rw [List.drop_eq_getElem_cons hlt]
  rw [List.getElem?_eq_getElem hlt] at hg
  injection hg with hg
  rw [hg]
  rfl
end Go.Proofs.YtlkiaghpdjbfeaaGreatDoor

namespace Go.Proofs.YtlkiaghpdjbfeaaGreatDoor
open Go.RowKit
theorem step_append_str {P : Program} (w : World) {ops : Array Oper} {o : Oper} {a : Act} {K : Act → World → Prop} {Q : Exit → Act → World → Prop} {N : Prop} (hgd : o.guard = none) (s x : Operand) (T : TypeId)
    (ho : o.op = .call { callee := .builtin .append, args := #[s, x], argTypes := #[T, T] }) {E : TypeId} (U : St P T E) (v : Value) (xs : List ByteArray) (hs : a.eval s = v) (hown : OwnT E w v xs) (B : Nat) (A : Option Addr) (n c : Nat) (ys : List ByteArray)
    (hx : a.eval x = .slice A n c) (hn : n = ys.length) (hr : Strs w B A ys) (hb : xs.length + ys.length ≤ 1000000000)
    (h : ∀ A' n' c' w', OwnT E w' (.slice A' n' c') (xs ++ ys) → Hid (n' = (xs ++ ys).length) → n' ≤ c' → c' ≤ maxLen → w.grownBy w' v.ownBlock → ((Value.slice A' n' c').ownBlock = v.ownBlock ∨ (Value.slice A' n' c').ownBlock = some w.heap.size) → K (a.put o.dst (.slice A' n' c')) w') : if Region.wanted o (yielded ops a.tmps) = true then Oper.wp P o a w K Q else N := by
  have hw : Region.wanted o (yielded ops a.tmps) = true := by simp [Region.wanted, hgd]
  rw [if_pos hw]
  exact wp_append_str w s x T ho U v xs hs hown B A n c ys hx hn hr hb h
end Go.Proofs.YtlkiaghpdjbfeaaGreatDoor

namespace Go.Proofs.YtlkiaghpdjbfeaaGreatDoor
open Go.RowKit

set_option maxRecDepth 100000 in
theorem changes_any (k : Int) (w : World) : Calls Tryz.prog 16 #[.int .i64 k] w fun e w' => e = .returned (.bool (changes k)) ∧ w' = w := by
  by_cases h : k = 1 ∨ k = 2 ∨ k = 3 ∨ k = 4 ∨ k = 5 ∨ k = 6 ∨ k = 7 ∨ k = 9
  · rcases h with rfl | rfl | rfl | rfl | rfl | rfl | rfl | rfl
    all_goals
      go_enter Tryz.func16, Tryz.ntmps16
      go_wp2_with fail
      go_ret
      exact ⟨rfl, rfl⟩
  · have z1 : (k == 1) = false := beq_eq_false_iff_ne.2 (by omega)
    have z2 : (k == 2) = false := beq_eq_false_iff_ne.2 (by omega)
    have z3 : (k == 3) = false := beq_eq_false_iff_ne.2 (by omega)
    have z4 : (k == 4) = false := beq_eq_false_iff_ne.2 (by omega)
    have z5 : (k == 5) = false := beq_eq_false_iff_ne.2 (by omega)
    have z6 : (k == 6) = false := beq_eq_false_iff_ne.2 (by omega)
    have z7 : (k == 7) = false := beq_eq_false_iff_ne.2 (by omega)
    have z9 : (k == 9) = false := beq_eq_false_iff_ne.2 (by omega)
    have hc : changes k = false := decide_eq_false (by omega)
    rw [hc]
    clear h hc
    go_enter Tryz.func16, Tryz.ntmps16
    go_wp2_with fail
    go_ret
    exact ⟨rfl, rfl⟩
end Go.Proofs.YtlkiaghpdjbfeaaGreatDoor

namespace Go.Proofs.YtlkiaghpdjbfeaaGreatDoor
open Go.RowKit
variable {Zp : Nat → Prop}

/-- 64 nodes, none of which there is. -/
def zNode : List Value := [.int .i64 0, .int .i64 0, .int .i64 0, .slice none 0 0, .slice none 0 0]
def zT : Array Value := ((List.range 64).flatMap fun _ => zNode).toArray
theorem zT_size : zT.size = 320 := by kernel_rfl
theorem flat5_get (j : Nat) (hj : j < 5) : ∀ (m n : Nat) (f : List Nat), f.length = m → n < m → (f.flatMap fun _ => zNode)[n * 5 + j]? = zNode[j]?
  | 0, n, f, _, h => by omega
  | m + 1, n, [], h, _ => by simp at h
  | m + 1, 0, a :: f, _, _ => by
    rw [List.flatMap_cons, Nat.zero_mul, Nat.zero_add, List.getElem?_append_left hj]
  | m + 1, n + 1, a :: f, h, hn => by
    rw [List.flatMap_cons, List.getElem?_append_right (by show 5 ≤ _; omega)]
    have := flat5_get j hj m n f (by simpa using h) (by omega)
    have e : (n + 1) * 5 + j - zNode.length = n * 5 + j := by show _ - 5 = _; omega
    rw [e, this]
theorem zT_get {n j : Nat} (hn : n < 64) (hj : j < 5) : zT[n * 5 + j]? = zNode[j]? := by
  unfold zT
  rw [List.getElem?_toArray]
  exact flat5_get j hj 64 n _ (by simp) hn
theorem zeroT (w : World) : (zeroValue 58).run Tryz.prog w = .ok (.agg zT) w := by rw [Tryz.zeroValue58]; kernel_rfl
theorem storeT (w : World) : (storeCells ⟨w.heap.size, 0, none⟩ zT.toList 0).run Tryz.prog (w.alloc (.cells zT 58)) = .ok () (w.alloc (.cells zT 58)) :=
  run_storeCells_new w 58 zT zT (by kernel_rfl) rfl (by kernel_rfl)
attribute [local go_sem] zT_size
attribute [local go_sem ↓] zeroT storeT
theorem refAt_zero (w : World) (hZ : ∀ b, w.heap.size ≤ b → Zp b) : RefAt Zp (w.alloc (.cells zT 58)) w.heap.size (fun _ => noNode) := by
  have hb := heap_alloc_new w (.cells zT 58)
  have c : ∀ n j, n < 64 → j < 5 → ∀ v, zNode[j]? = some v → (w.alloc (.cells zT 58)).cell? ⟨w.heap.size, n * 5 + j, none⟩ = some v := fun n j hn hj v hv => by
    rw [World.cell?_alloc_mark]
    show zT[n * 5 + j]? = _
    rw [zT_get hn hj, hv]
  exact ⟨⟨zT, hb, zT_size⟩, fun n hn => ⟨c n 0 hn (by omega) _ rfl, c n 1 hn (by omega) _ rfl, c n 2 hn (by omega) _ rfl, ⟨none, 0, c n 3 hn (by omega) _ rfl, fun j b hj => by simp [noNode] at hj, fun a e => by cases e⟩, ⟨none, 0, c n 4 hn (by omega) _ rfl, Nat.zero_le _, Nat.zero_le _, Ents.nil, fun a e => by cases e⟩⟩, fun b hb => hZ b (Nat.le_trans (by simp) hb)⟩
set_option maxRecDepth 100000 in
theorem rnew_any (w : World) (hZ : ∀ b, w.heap.size ≤ b → Zp b) : Calls Tryz.prog 9 #[] w fun e w' => ∃ g, e = .returned (.pointer (some ⟨g, 0, none⟩)) ∧ w.heap.size ≤ g ∧ KF w w' ∧ RefAt Zp w' g newT := by
  obtain ⟨g, hg⟩ : ∃ g, w.heap.size = g := ⟨_, rfl⟩
  obtain ⟨w1, hw1⟩ : ∃ w1, w.alloc (.cells zT 58) = w1 := ⟨_, rfl⟩
  have hR : RefAt Zp w1 g (fun _ => noNode) := by rw [← hw1, ← hg]; exact refAt_zero w hZ
  have k1 : KF w w1 := by rw [← hw1]; exact (KF.refl _).alloc _
  have HF := Lib.hid (hR.setNode (n := 0) (by omega) 1 1 0 rfl)
  have hb := hR.blk
  have c0 := Blk.some hb (i := 0) (by omega)
  have HW := Lib.hid hw1
  have HG := Lib.hid hg
  have HB := Lib.hid hR
  clear hw1 hg hR hb c0
  go_enter Tryz.func9, Tryz.ntmps9
  go_upto_region 2 with fail
  rw [HW.out, HG.out]
  have hg' : w.heap.size ≤ g := Nat.le_of_eq HG.out
  have FIN : Hid (KF w (((((w1.setCell ⟨g, 0, none⟩ (.int .i64 0)).setCell ⟨g, 1, none⟩ (.int .i64 1)).setCell ⟨g, 2, none⟩ (.int .i64 1)).setCell ⟨g, 3, none⟩ (.slice none 0 0)).setCell ⟨g, 4, none⟩ (.slice none 0 0)) ∧ RefAt Zp (((((w1.setCell ⟨g, 0, none⟩ (.int .i64 0)).setCell ⟨g, 1, none⟩ (.int .i64 1)).setCell ⟨g, 2, none⟩ (.int .i64 1)).setCell ⟨g, 3, none⟩ (.slice none 0 0)).setCell ⟨g, 4, none⟩ (.slice none 0 0)) g newT) := Lib.hid ⟨Keep.setCell (Keep.setCell (Keep.setCell (Keep.setCell (Keep.setCell k1 (.inl hg') _) (.inl hg') _) (.inl hg') _) (.inl hg') _) (.inl hg') _, HF.out⟩
  have c0 : w1.cell? ⟨g, 0, none⟩ = some (.int .i64 0) := (HB.out.node 0 (by omega)).num
  have c1 : w1.cell? ⟨g, 1, none⟩ = some (.int .i64 0) := (HB.out.node 0 (by omega)).kind
  have c2 : w1.cell? ⟨g, 2, none⟩ = some (.int .i64 0) := (HB.out.node 0 (by omega)).links
  obtain ⟨A3, d3, c3, _⟩ := (HB.out.node 0 (by omega)).data
  obtain ⟨A4, d4, c4, _⟩ := (HB.out.node 0 (by omega)).ents
  have c3 : w1.cell? ⟨g, 3, none⟩ = some (.slice A3 0 d3) := c3
  have c4 : w1.cell? ⟨g, 4, none⟩ = some (.slice A4 0 d4) := c4
  have f0 := HB.out.free 0
  have f1 := HB.out.free 1
  have f2 := HB.out.free 2
  have f3 := HB.out.free 3
  have f4 := HB.out.free 4
  clear HF k1 HW HG
  go_wp2_with fail
  go_ret
  exact ⟨g, rfl, hg', FIN.out.1, FIN.out.2⟩
end Go.Proofs.YtlkiaghpdjbfeaaGreatDoor
