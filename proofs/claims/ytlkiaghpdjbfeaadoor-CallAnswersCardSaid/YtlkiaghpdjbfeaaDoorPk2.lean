/-
  Every call keeps what holds of a tree; a renaming can be taken back; entries and links are counted. Over no program.
  What the reference's do leaves.
  Paths of one name, of one name more.
  Paths in the document's tree: what is found, what stands above. It speaks of no program's text.
  Calls that lie in memory, one behind the other.
  The reference's tree, changed in one node.
  The reference's New.
  The reference's drop and put: rows of entries, laid anew.
  The reference's size: so many bytes of a file.
  A tree with one file: what is written is read. Over no program.
  append onto a row of texts, as a step of a drawn region. It speaks of no program.
  What a law's row asks beside its walk, over any program: a slice of bytes that came in, and the end: the law answered true and nothing that was there has turned.
-/
import Derived.Test.YtlkiaghpdjbfeaaDoorPk1
import Derived.Test.YtlkiaghpdjbfeaaDoorPk0
import Derived.Deep.WholeRow
import Derived.Deep.CutRange
import Derived.Deep.DeepCutAuto
import Derived.Deep.RegionWith
import Derived.ProofKit
import Derived.OpenShut
import Derived.Deep.Slices
import Derived.Deep.Fields
namespace Go.Proofs.YtlkiaghpdjbfeaaDoor

theorem last_eq (x : Txt) (r : List Txt) : ∃ ns y, x :: r = ns ++ [y] ∧ (x :: r).dropLast = ns ∧ (x :: r).getLast (by simp) = y :=
  ⟨(x :: r).dropLast, (x :: r).getLast (by simp), (List.dropLast_concat_getLast (by simp)).symm, rfl, rfl⟩
theorem snoc_parts {ns : List Txt} {y : Txt} : ∃ a r, ns ++ [y] = a :: r ∧ (a :: r).dropLast = ns ∧ ∀ h, (a :: r).getLast h = y := by
  cases h : ns ++ [y] with
  | nil => simp at h
  | cons a r =>
    refine ⟨a, r, rfl, ?_, fun h' => ?_⟩
    · rw [← h]; simp
    · have : (ns ++ [y]).getLast (by simp) = y := by simp
      simp only [h] at this
      exact this

theorem place_ok {t : Tr} {s : Txt} {d : Nat} {x : Txt} (h : place t s = .ok (d, x)) : ∃ ns, pathM s = some (ns ++ [x]) ∧ walk t 0 ns = .ok d ∧ (t d).kind = 1 ∧ look (t d).entries x = none := by
  unfold place at h
  split at h
  · cases h
  · cases h
  · next y r hp =>
    split at h
    · cases h
    · next d' hd' =>
      split at h
      · cases h
      · next hk =>
        split at h
        · cases h
        · next hl =>
          obtain ⟨ns, z, h1, h2, h3⟩ := last_eq y r
          rw [h3] at h hl
          injection h with h
          injection h with h4 h5
          subst h4 h5
          exact ⟨ns, by rw [hp, h1], by rw [← h2]; exact hd', by omega, hl⟩
theorem place_of {t : Tr} {s : Txt} {d : Nat} {x : Txt} {ns : List Txt} (hp : pathM s = some (ns ++ [x])) (hw : walk t 0 ns = .ok d) (hk : (t d).kind = 1) (hl : look (t d).entries x = none) : place t s = .ok (d, x) := by
  obtain ⟨a, r, h1, h2, h3⟩ := snoc_parts (ns := ns) (y := x)
  rw [h1] at hp
  unfold place
  rw [hp]
  simp only [h2, hw, h3]
  rw [if_neg (by omega), hl]
theorem findUp_ok {t : Tr} {s : Txt} {a p : Nat} {x : Txt} (h : findUp t s = .ok (a, p, x)) : ∃ ns, pathM s = some (ns ++ [x]) ∧ walk t 0 ns = .ok p ∧ (t p).kind = 1 ∧ look (t p).entries x = some a := by
  unfold findUp at h
  split at h
  · cases h
  · cases h
  · next y r hp =>
    split at h
    · cases h
    · next a' ha' =>
      split at h
      · cases h
      · next p' hp' =>
        obtain ⟨ns, z, h1, h2, h3⟩ := last_eq y r
        rw [h3] at h
        injection h with h
        injection h with h4 h5
        injection h5 with h5 h6
        subst h4 h5 h6
        rw [h1] at ha'
        obtain ⟨m, hm, hmk, hml⟩ := walk_snoc ha'
        rw [h2] at hp'
        rw [hm] at hp'
        injection hp' with hp'
        subst hp'
        exact ⟨ns, by rw [hp, h1], hm, hmk, hml⟩
theorem findUp_of {t : Tr} {s : Txt} {a p : Nat} {x : Txt} {ns : List Txt} (hp : pathM s = some (ns ++ [x])) (hw : walk t 0 ns = .ok p) (hk : (t p).kind = 1) (hl : look (t p).entries x = some a) : findUp t s = .ok (a, p, x) := by
  have hwa := walk_snoc_ok hw hk hl
  obtain ⟨b, r, h1, h2, h3⟩ := snoc_parts (ns := ns) (y := x)
  rw [h1] at hp hwa
  unfold findUp
  rw [hp]
  simp only [hwa, h2, hw, h3]
theorem pathM_last {s : Txt} {ns : List Txt} {x : Txt} (h : pathM s = some (ns ++ [x])) : IsName x := (pathM_some h).2.2 x (by simp)
theorem least_ok {t : Tr} {n : Nat} (h : least t = some n) : (t n).kind = 0 ∧ n < 64 := by
  unfold least at h
  have h1 := List.find?_some h
  have h2 := List.mem_of_find?_eq_some h
  exact ⟨by simpa using h1, List.mem_range.1 h2⟩
theorem sized_length (b : Txt) (n : Nat) : (sized b n).length = n := by
  unfold sized
  rw [List.length_append, List.length_take, List.length_replicate]
  omega
theorem over_length {b : Txt} {off : Nat} {d : Txt} (h : off + d.length ≤ b.length) : (over b off d).length = b.length := by
  unfold over
  rw [List.length_append, List.length_append, List.length_take, List.length_drop]
  omega
theorem written_length {b : Txt} {off : Nat} {d : Txt} (hb : b.length ≤ 512) (h : off + d.length ≤ 512) : (written b off d).length ≤ 512 := by
  unfold written
  split
  · exact hb
  · rw [over_length (by rw [sized_length]; omega), sized_length]
    omega

/-- To name a directory from beneath itself is to stand inside its path. -/
theorem not_beneath {t : Tr} (g : Good t) {s o : Txt} {a p d : Nat} {x y : Txt} {ns ms : List Txt} (hs : pathM s = some (ns ++ [x])) (hn : walk t 0 ns = .ok p) (hk : (t p).kind = 1) (hl : look (t p).entries x = some a)
    (ho : pathM o = some (ms ++ [y])) (hm : walk t 0 ms = .ok d) (hd : (t d).kind = 1) (hin : insideM o s = false) : ∀ rs, walk t a rs ≠ .ok d := fun rs hrs => by
  have hwa := walk_snoc_ok hn hk hl
  have h2 : walk t 0 ((ns ++ [x]) ++ rs) = .ok d := by rw [walk_append, hwa]; exact hrs
  have h3 := g.one_way _ (Nat.le_refl _) hm h2 hd
  rw [insideM_some ho hs] at hin
  have hin := of_decide_eq_false hin
  apply hin
  rw [h3]
  refine ⟨by simp, ?_⟩
  rw [List.append_assoc (ns ++ [x]), List.take_left]

theorem doMake_good {t : Tr} (g : Good t) {k : Nat} (hk : k = 1 ∨ k = 2) (s : Txt) : Good (doMake t k s).2 := by
  unfold doMake
  split
  · exact g
  · next d x hp =>
    split
    · exact g
    · next n hn =>
      obtain ⟨ns, h1, _, h3, h4⟩ := place_ok hp
      obtain ⟨h5, h6⟩ := least_ok hn
      exact g.make hk h3 h4 (pathM_last h1) h5 h6
theorem doRmdir_good {t : Tr} (g : Good t) (s : Txt) : Good (doRmdir t s).2 := by
  unfold doRmdir
  split
  · exact g
  · next a p x hf =>
    split
    · exact g
    · split
      · exact g
      · next h =>
        obtain ⟨ns, _, _, _, hl⟩ := findUp_ok hf
        exact g.unlink hl (Classical.not_not.1 h)
theorem doUnlink_good {t : Tr} (g : Good t) (s : Txt) : Good (doUnlink t s).2 := by
  unfold doUnlink
  split
  · exact g
  · next a p x hf =>
    split
    · exact g
    · next h =>
      obtain ⟨ns, _, _, _, hl⟩ := findUp_ok hf
      have h1 := g.kinds a
      have h2 := (g.entry p _ (look_mem hl)).2.2
      exact g.unlink hl (g.file a (by have h3 : (t a).kind ≠ 0 := h2; omega)).1
theorem doLink_good {t : Tr} (g : Good t) (s o : Txt) : Good (doLink t s o).2 := by
  unfold doLink
  split
  · exact g
  · next a hf =>
    split
    · exact g
    · next h =>
      split
      · exact g
      · next d x hp =>
        obtain ⟨ms, h1, _, h3, h4⟩ := place_ok hp
        have h5 : (t a).kind ≠ 0 := by
          unfold find at hf
          split at hf
          · cases hf
          · exact g.walked (by rw [g.root.1]; omega) hf
        have h6 := g.kinds a
        exact g.link (by omega) h3 h4 (pathM_last h1)
theorem doRename_good {t : Tr} (g : Good t) (s o : Txt) : Good (doRename t s o).2 := by
  unfold doRename
  split
  · exact g
  · next a p x hf =>
    split
    · exact g
    · split
      · exact g
      · next hin =>
        split
        · exact g
        · next d y hp =>
          obtain ⟨ns, q1, q2, q3, q4⟩ := findUp_ok hf
          obtain ⟨ms, h1, h2, h3, h4⟩ := place_ok hp
          exact g.move q4 h3 h4 (pathM_last h1) fun _ => not_beneath g q1 q2 q3 q4 h1 h2 h3 (by simpa using hin)
theorem findFile_ok {t : Tr} (g : Good t) {s : Txt} {a : Nat} (h : findFile t s = .ok a) : (t a).kind = 2 := by
  unfold findFile at h
  split at h
  · cases h
  · next a' hf =>
    split at h
    · cases h
    · next hk =>
      injection h with h
      subst h
      have h5 : (t a').kind ≠ 0 := by
        unfold find at hf
        split at hf
        · cases hf
        · exact g.walked (by rw [g.root.1]; omega) hf
      have h6 := g.kinds a'
      omega
theorem doWrite_good {t : Tr} (g : Good t) (s : Txt) (off : Int) (d : Txt) : Good (doWrite t s off d).2 := by
  unfold doWrite
  split
  · exact g
  · next a hf =>
    have hk := findFile_ok g hf
    split
    · exact g
    · split
      · exact g
      · next h => exact g.filled hk (written_length (g.file a hk).2 (by omega))
theorem doCut_good {t : Tr} (g : Good t) (s : Txt) (n : Int) : Good (doCut t s n).2 := by
  unfold doCut
  split
  · exact g
  · next a hf =>
    have hk := findFile_ok g hf
    split
    · exact g
    · split
      · exact g
      · next h => exact g.filled hk (by rw [sized_length]; omega)
/-- Every call keeps what holds of a tree. -/
theorem doT_good {t : Tr} (g : Good t) (c : TCall) : Good (doT t c).2 :=
  doT_cases t c (fun r => Good r.2) (fun _ => doMake_good g (Or.inl rfl) _) (fun _ => doRmdir_good g _) (fun _ => doMake_good g (Or.inr rfl) _) (fun _ => doUnlink_good g _) (fun _ => doLink_good g _ _) (fun _ => doRename_good g _ _) (fun _ => doWrite_good g _ _ _)
    (fun _ => by rw [doRead_same]; exact g) (fun _ => doCut_good g _ _) (fun _ => by rw [doStat_same]; exact g) (fun _ => by rw [doList_same]; exact g) (fun _ => g) (fun _ => g)
theorem doAll_good (cs : List TCall) : ∀ {t : Tr}, Good t → Good (doAll t cs) := by
  induction cs with
  | nil => exact fun g => g
  | cons c cs ih => exact fun g => ih (doT_good g c)

/-! ### A renaming, and back -/
/-- A way that doesn't take an entry is there when the entry is gone, and another one there. -/
theorem walk_moved {t : Tr} {a p d : Nat} {x y : Txt} (hy : look (t d).entries y = none) (hxy : ¬ (p = d ∧ x = y)) : ∀ (us : List Txt) (n k : Nat), walk t n us = .ok k → (∀ u1 u2, us = u1 ++ x :: u2 → walk t n u1 ≠ .ok p) → walk (moved t a p x d y) n us = .ok k
  | [], _, _, h, _ => h
  | z :: r, n, k, h, hno => by
    rw [walk] at h ⊢
    rw [moved_kind]
    split at h
    · cases h
    · next hk =>
      rw [if_neg hk]
      split at h
      · cases h
      · next m hm =>
        have hne : ¬ (n = p ∧ z = x) := fun e => hno [] r (by rw [e.2]; rfl) (by rw [walk, e.1])
        have hl : look (moved t a p x d y n).entries z = some m := by
          rw [moved_entries]
          split
          · next h1 =>
            rw [look_put]
            have hzy : z ≠ y := fun e => by rw [e, h1, hy] at hm; cases hm
            rw [if_neg hzy]
            split
            · next h2 =>
              rw [look_drop, if_neg (fun e => hne ⟨h1.trans h2, e⟩), ← h2, ← h1]
              exact hm
            · rw [← h1]; exact hm
          · split
            · next h2 =>
              rw [look_drop, if_neg (fun e => hne ⟨h2, e⟩), ← h2]
              exact hm
            · exact hm
        rw [hl]
        refine walk_moved hy hxy r m k h fun u1 u2 e hw => hno (z :: u1) u2 (by rw [e]; rfl) ?_
        rw [walk, if_neg hk, hm]
        exact hw
theorem walk_file {t : Tr} {a k : Nat} {us : List Txt} (ha : (t a).kind ≠ 1) (h : walk t a us = .ok k) : us = [] ∧ k = a := by
  cases us with
  | nil =>
    rw [walk] at h
    injection h with h
    exact ⟨rfl, h.symm⟩
  | cons z r => rw [walk, if_pos ha] at h; cases h

theorem renamed {t : Tr} (g : Good t) {s o : Txt} (hne : o ≠ s) (h : (doRename t s o).1.err = 0) :
    (doStat (doRename t s o).2 o).1 = (doStat t s).1 ∧ (doStat t s).1.err = 0 ∧ (doStat (doRename t s o).2 s).1.err ≠ 0 ∧ (∀ m, ((doRename t s o).2 m).kind = (t m).kind) ∧ doRename (doRename t s o).2 o s = (okA, t) := by
  unfold doRename at h
  split at h
  · next e hf =>
    exfalso
    unfold findUp at hf
    have h : e = 0 := h
    subst h
    split at hf
    · cases hf
    · cases hf
    · have wne : ∀ us n, walk t n us ≠ .error 0 := fun us => by
        induction us with
        | nil => intro n h; rw [walk] at h; cases h
        | cons z r ih =>
          intro n h
          rw [walk] at h
          split at h
          · cases h
          · split at h
            · cases h
            · exact ih _ h
      split at hf
      · next hw => injection hf with hf; subst hf; exact wne _ _ hw
      · split at hf
        · next hw => injection hf with hf; subst hf; exact wne _ _ hw
        · cases hf
  · next a p x hf =>
    rw [if_neg hne] at h
    split at h
    · cases h
    · next hin =>
      split at h
      · next e hp =>
        exfalso
        have h : e = 0 := h
        subst h
        have wne : ∀ us n, walk t n us ≠ .error 0 := fun us => by
          induction us with
          | nil => intro n h; rw [walk] at h; cases h
          | cons z r ih =>
            intro n h
            rw [walk] at h
            split at h
            · cases h
            · split at h
              · cases h
              · exact ih _ h
        unfold place at hp
        split at hp
        · cases hp
        · cases hp
        · split at hp
          · next hw => injection hp with hp; subst hp; exact wne _ _ hw
          · split at hp
            · cases hp
            · split at hp <;> cases hp
      · next d y hp =>
        have hin : insideM o s = false := by simpa using hin
        have hr : doRename t s o = (okA, moved t a p x d y) := by
          unfold doRename
          rw [hf]
          simp only [hp]
          rw [if_neg hne, if_neg (by rw [hin]; simp)]
        rw [hr]
        simp only
        obtain ⟨ns, q1, q2, q3, q4⟩ := findUp_ok hf
        obtain ⟨ms, h1, h2, h3, h4⟩ := place_ok hp
        have hnb := not_beneath g q1 q2 q3 q4 h1 h2 h3 hin
        have hxy : ¬ (p = d ∧ x = y) := fun ⟨e1, e2⟩ => by
          rw [e1, e2, h4] at q4
          cases q4
        have had : a ≠ d := fun e => hnb [] (by rw [walk, e])
        have hap : a ≠ p := fun e => by
          obtain ⟨rk, hrk⟩ := g.rank
          have := hrk p _ (look_mem q4) (by show (t a).kind = 1; rw [e]; exact q3)
          have h' : rk p < rk a := this
          rw [e] at h'
          omega
        -- the way to the directory above is there still
        have wp : walk (moved t a p x d y) 0 ns = .ok p := walk_moved h4 hxy ns 0 p q2 fun u1 u2 e hw => by
          have := g.one_way _ (Nat.le_refl _) hw q2 q3
          rw [this] at e
          have := congrArg List.length e
          simp at this
        have wd : walk (moved t a p x d y) 0 ms = .ok d := walk_moved h4 hxy ms 0 d h2 fun u1 u2 e hw => by
          have hu := g.one_way _ (Nat.le_refl _) hw q2 q3
          rw [e, hu, walk_append, q2] at h2
          have h2 : walk t p (x :: u2) = .ok d := h2
          rw [walk, if_neg (by omega), q4] at h2
          exact hnb u2 h2
        have kd : (moved t a p x d y d).kind = 1 := by rw [moved_kind]; exact h3
        have kp : (moved t a p x d y p).kind = 1 := by rw [moved_kind]; exact q3
        have ld : look (moved t a p x d y d).entries y = some a := by
          rw [moved_entries, if_pos rfl, look_put, if_pos rfl]
        have lp : look (moved t a p x d y p).entries x = none := by
          rw [moved_entries]
          split
          · next e =>
            rw [look_put, if_neg (fun e' => hxy ⟨e, e'⟩), if_pos e.symm, look_drop, if_pos rfl]
          · rw [if_pos rfl, look_drop, if_pos rfl]
        have fo : find (moved t a p x d y) o = .ok a := by
          unfold find
          rw [h1]
          exact walk_snoc_ok wd kd ld
        have fs : find t s = .ok a := by
          unfold find
          rw [q1]
          exact walk_snoc_ok q2 q3 q4
        have ea : (moved t a p x d y a).entries = (t a).entries := by
          rw [moved_entries, if_neg had, if_neg hap]
        refine ⟨?_, ?_, ?_, fun m => moved_kind .., ?_⟩
        · unfold doStat
          rw [fo, fs]
          simp only [moved_kind, moved_links, moved_data, ea]
        · unfold doStat
          rw [fs]
        · have fg : find (moved t a p x d y) s = .error 21 := by
            unfold find
            rw [q1]
            show walk _ 0 (ns ++ [x]) = _
            rw [walk_append, wp]
            show walk _ p [x] = _
            rw [walk, if_neg (by omega), lp]
          unfold doStat
          rw [fg]
          show (21 : Nat) ≠ 0
          omega
        · have hin2 : insideM s o = false := by
            rw [insideM_some q1 h1]
            refine decide_eq_false fun ⟨hlt, htk⟩ => ?_
            have e : (ns ++ [x]) = (ms ++ [y]) ++ (ns ++ [x]).drop (ms ++ [y]).length := by
              conv => lhs; rw [← List.take_append_drop (ms ++ [y]).length (ns ++ [x])]
              rw [htk]
            have hw := walk_snoc_ok q2 q3 q4
            rw [e, walk_append] at hw
            split at hw
            · cases hw
            · next m hm =>
              obtain ⟨m', hm', _, hl'⟩ := walk_snoc hm
              rw [h2] at hm'
              injection hm' with hm'
              rw [← hm', h4] at hl'
              cases hl'
          have f1 := findUp_of h1 wd kd ld
          have f2 := place_of q1 wp kp lp
          unfold doRename
          rw [f1]
          simp only [f2]
          rw [if_neg (fun e => hne e.symm), if_neg (by rw [hin2]; simp)]
          congr 1
          funext m
          have hE : (moved (moved t a p x d y) a d y p x m).entries = (t m).entries := by
            rw [moved_entries]
            by_cases hpd : p = d
            · subst hpd
              rw [if_pos rfl]
              by_cases hmp : m = p
              · subst hmp
                rw [if_pos rfl, moved_entries, if_pos rfl, if_pos rfl, drop_put (drop_rising (g.rising m) x) (by rw [look_drop]; split; rfl; exact h4), put_drop (g.rising m) q4]
              · rw [if_neg hmp, if_neg hmp, moved_entries, if_neg hmp, if_neg hmp]
            · rw [if_neg hpd]
              by_cases hmp : m = p
              · subst hmp
                rw [if_pos rfl, moved_entries, if_neg hpd, if_pos rfl, put_drop (g.rising m) q4]
              · rw [if_neg hmp]
                by_cases hmd : m = d
                · subst hmd
                  rw [if_pos rfl, moved_entries, if_pos rfl, if_neg (fun e => hpd e.symm), drop_put (g.rising m) h4]
                · rw [if_neg hmd, moved_entries, if_neg hmd, if_neg hmp]
          have hK : (moved (moved t a p x d y) a d y p x m).kind = (t m).kind := by rw [moved_kind, moved_kind]
          have hL : (moved (moved t a p x d y) a d y p x m).links = (t m).links := by rw [moved_links, moved_links]
          have hD : (moved (moved t a p x d y) a d y p x m).data = (t m).data := by rw [moved_data, moved_data]
          cases hu : moved (moved t a p x d y) a d y p x m with
          | mk k l dd ee =>
            cases ht : t m with
            | mk k2 l2 dd2 ee2 =>
              rw [hu, ht] at hE hK hL hD
              simp only at hE hK hL hD
              subst hE hK hL hD
              rfl

/-! ### As many links as entries, and one -/
theorem sum_add (f g : Nat → Nat) : ∀ N, ((List.range N).map fun m => f m + g m).sum = ((List.range N).map f).sum + ((List.range N).map g).sum := by
  intro N
  induction N with
  | zero => rfl
  | succ N ih =>
    simp only [List.range_succ, List.map_append, List.map_cons, List.map_nil, List.sum_append, List.sum_cons, List.sum_nil, Nat.add_zero] at ih ⊢
    omega
theorem sum_swap (f : Nat → Nat → Nat) (N : Nat) : ∀ M, ((List.range M).map fun m => ((List.range N).map fun n => f m n).sum).sum = ((List.range N).map fun n => ((List.range M).map fun m => f m n).sum).sum := by
  intro M
  induction M with
  | zero =>
    simp only [List.range_zero, List.map_nil, List.sum_nil]
    induction N with
    | zero => rfl
    | succ N ih => simp only [List.range_succ, List.map_append, List.map_cons, List.map_nil, List.sum_append, List.sum_cons, List.sum_nil, Nat.add_zero]; exact ih
  | succ M ih =>
    have e : ((List.range N).map fun n => ((List.range (M + 1)).map fun m => f m n).sum).sum = ((List.range N).map fun n => ((List.range M).map fun m => f m n).sum + f M n).sum := by
      congr 1
      refine List.map_congr_left fun n _ => ?_
      simp only [List.range_succ, List.map_append, List.map_cons, List.map_nil, List.sum_append, List.sum_cons, List.sum_nil, Nat.add_zero]
    rw [e, sum_add, ← ih]
    simp only [List.range_succ, List.map_append, List.map_cons, List.map_nil, List.sum_append, List.sum_cons, List.sum_nil, Nat.add_zero]
theorem refs_total (es : Row) (N : Nat) (h : ∀ e ∈ es, e.2 < N) : ((List.range N).map fun n => refs es n).sum = es.length := by
  induction es with
  | nil =>
    have : ∀ M, ((List.range M).map fun n => refs [] n).sum = 0 := fun M => by
      induction M with
      | zero => rfl
      | succ M ih => simp only [List.range_succ, List.map_append, List.map_cons, List.map_nil, List.sum_append, List.sum_cons, List.sum_nil, Nat.add_zero]; rw [ih]; rfl
    exact this N
  | cons e r ih =>
    have e1 : (fun n => refs (e :: r) n) = fun n => refs r n + if e.2 = n then 1 else 0 := by
      funext n
      unfold refs
      rw [List.countP_cons]
      simp
    rw [e1, sum_add, ih fun x hx => h x (by simp [hx]), List.length_cons]
    have one : ∀ M, e.2 < M → ((List.range M).map fun n => if e.2 = n then 1 else 0).sum = 1 := by
      have zero : ∀ M, M ≤ e.2 → ((List.range M).map fun n => if e.2 = n then 1 else 0).sum = 0 := fun M => by
        induction M with
        | zero => intro _; rfl
        | succ M ih =>
          intro hM
          simp only [List.range_succ, List.map_append, List.map_cons, List.map_nil, List.sum_append, List.sum_cons, List.sum_nil, Nat.add_zero]
          rw [ih (by omega), if_neg (by omega)]
      intro M
      induction M with
      | zero => intro h; omega
      | succ M ih =>
        intro hM
        simp only [List.range_succ, List.map_append, List.map_cons, List.map_nil, List.sum_append, List.sum_cons, List.sum_nil, Nat.add_zero]
        by_cases he : e.2 = M
        · rw [if_pos he, zero M (by omega)]
        · rw [if_neg he, ih (by omega)]
    rw [one N (h e (by simp))]
theorem Good.counted {t : Tr} (g : Good t) : ((List.range 64).map fun n => (t n).links).sum = ((List.range 64).map fun n => (t n).entries.length).sum + 1 := by
  have e1 : ∀ m, m < 64 → (t m).entries.length = ((List.range 64).map fun n => refs (t m).entries n).sum := fun m _ =>
    (refs_total _ 64 fun e he => g.lt (g.entry m e he).2.2).symm
  have e2 : ((List.range 64).map fun m => (t m).entries.length).sum = ((List.range 64).map fun n => allRefs t n).sum := by
    have : ((List.range 64).map fun m => (t m).entries.length) = (List.range 64).map fun m => ((List.range 64).map fun n => refs (t m).entries n).sum :=
      List.map_congr_left fun m hm => e1 m (List.mem_range.1 hm)
    rw [this, sum_swap]
    rfl
  have h0 : allRefs t 0 = 0 := g.zero_refs (Or.inr rfl)
  have := (sum_change (fun n => (t n).links) (fun n => allRefs t n) 0 (fun m hm => by
    by_cases hk : (t m).kind = 0
    · rw [g.void m hk]
      show (0 : Nat) = allRefs t m
      rw [g.zero_refs (Or.inl hk)]
    · exact (g.count m hm hk).1.symm) 64).2 (by omega)
  simp only [g.root.2, h0] at this
  omega
end Go.Proofs.YtlkiaghpdjbfeaaDoor

namespace Go.Proofs.YtlkiaghpdjbfeaaDoor
open Go.RowKit

/-- An answer that says an error's number alone. -/
def BareA (r : TAns) : Prop := r.kind = 0 ∧ r.size = 0 ∧ r.links = 0 ∧ r.data = [] ∧ r.names = []
theorem BareA.ok : BareA okA := ⟨rfl, rfl, rfl, rfl, rfl⟩
theorem BareA.err (k : Nat) : BareA (errA k) := ⟨rfl, rfl, rfl, rfl, rfl⟩
/-- What Do leaves. -/
def RDone (Zp : Nat → Prop) (g : Nat) (r : TAns × Tr) (w : World) (e : Ending) (w' : World) : Prop := ∃ A1 c1 A2 c2, e = .returned (.agg #[.int .i64 (r.1.err : Int), .int .i64 (r.1.kind : Int), .int .i64 (r.1.size : Int), .int .i64 (r.1.links : Int), .slice A1 r.1.data.length c1, .slice A2 r.1.names.length c2]) ∧
  Rd w' w'.heap.size A1 r.1.data ∧ Strs w' w'.heap.size A2 (r.1.names.map ba) ∧ Keep (fun i => i = g) w w' ∧ RefAt Zp w' g r.2 ∧ (∀ a : Addr, A1 = some a → Zp a.block) ∧ ∀ a : Addr, A2 = some a → Zp a.block
end Go.Proofs.YtlkiaghpdjbfeaaDoor

namespace Go.Proofs.YtlkiaghpdjbfeaaDoor

/-- What the path of the first names is. -/
theorem above_def (ps : List Txt) (p : Txt) (hps : ps ≠ []) : joinM (ps ++ [p]) = joinM ps ++ 47 :: p := by
  induction ps with
  | nil => exact absurd rfl hps
  | cons a q ih =>
    cases q with
    | nil =>
      show joinM (a :: [p]) = _
      rw [joinM, joined_cons_cons, joinM, joined, joined, Lib.join_one, Lib.join_one]
      rfl
    | cons b r =>
      have := ih (by simp)
      simp only [joinM, List.cons_append] at this ⊢
      rw [joined_cons_cons, joined_cons_cons]
      injection this with _ this
      rw [this, List.append_assoc]
      rfl
theorem joinM_one (p : Txt) : joinM [p] = 47 :: p := by rw [joinM, joined, Lib.join_one]
theorem joined_le (ps : List Txt) (h : ∀ p ∈ ps, IsName p) : (joined ps).length ≤ 17 * ps.length := by
  induction ps with
  | nil => simp [joined, Lib.join, List.intercalate]
  | cons p q ih =>
    have hp := (h p (by simp)).2.2.1
    cases q with
    | nil => rw [joined, Lib.join_one]; simp; omega
    | cons y r =>
      have := ih fun n hn => h n (List.mem_cons_of_mem p hn)
      rw [joined_cons_cons, List.length_append, List.length_cons]
      simp only [List.length_cons] at this ⊢
      omega
end Go.Proofs.YtlkiaghpdjbfeaaDoor

namespace Go.Proofs.YtlkiaghpdjbfeaaDoor
open Go.RowKit

theorem Good.two {t : Tr} (g : Good t) {n : Nat} (h : (t n).kind ≠ 0) : (t n).kind = 1 ∨ (t n).kind = 2 := by have := g.kinds n; omega
theorem Good.name_le {t : Tr} (g : Good t) {n m : Nat} {x : Txt} (h : look (t n).entries x = some m) : x.length ≤ 16 ∧ m < 64 ∧ (t m).kind ≠ 0 ∧ m ≠ 0 := by
  have h1 := g.entry n _ (look_mem h)
  exact ⟨h1.1.2.2.1, g.lt h1.2.2, h1.2.2, h1.2.1⟩

/-- What the program's find answers. -/
def Finds (t : Tr) (s : Txt) (w : World) (e : Ending) (w' : World) : Prop := KF w w' ∧
  ((∃ k, find t s = .error k ∧ k ≠ 0 ∧ e = .returned (.tuple #[.int .i64 0, .int .i64 (k : Int)])) ∨ ∃ n, find t s = .ok n ∧ (t n).kind ≠ 0 ∧ e = .returned (.tuple #[.int .i64 (n : Int), .int .i64 0]))

theorem findFile_dir {t : Tr} {s : Txt} {n : Nat} (h : find t s = .ok n) (hk : (t n).kind = 1) : findFile t s = .error 24 := by
  unfold findFile
  rw [h]
  exact if_pos hk
theorem findFile_file {t : Tr} {s : Txt} {n : Nat} (h : find t s = .ok n) (hk : (t n).kind = 2) : findFile t s = .ok n := by
  unfold findFile
  rw [h]
  exact if_neg (by omega)
theorem findFile_err {t : Tr} {s : Txt} {k : Nat} (h : find t s = .error k) : findFile t s = .error k := by
  unfold findFile
  rw [h]

/-- The directory above a path, and its last name. -/
def upM (t : Tr) (s : Txt) : Except Nat (Nat × Txt) := match pathM s with
  | none => .error 20
  | some [] => .error 20
  | some (x :: r) => match walk t 0 (x :: r).dropLast with
    | .error e => .error e
    | .ok d => if (t d).kind ≠ 1 then .error 23 else .ok (d, (x :: r).getLast (by simp))
theorem upM_no {t : Tr} {s : Txt} (h : pathM s = none ∨ pathM s = some []) : upM t s = .error 20 := by
  unfold upM
  rcases h with h | h <;> rw [h]
theorem upM_some {t : Tr} {s : Txt} {ns : List Txt} {x : Txt} (h : pathM s = some (ns ++ [x])) : upM t s = match walk t 0 ns with | .error e => .error e | .ok d => if (t d).kind ≠ 1 then .error 23 else .ok (d, x) := by
  obtain ⟨a, r, h1, h2, h3⟩ := snoc_parts (ns := ns) (y := x)
  rw [h1] at h
  unfold upM
  rw [h]
  simp only [h2, h3]
theorem find_above {t : Tr} {s : Txt} {ns : List Txt} {x : Txt} (h : pathM s = some (ns ++ [x])) : find t (joinM ns) = walk t 0 ns := by
  unfold find
  rw [pathM_above h]
theorem pathM_cases (s : Txt) : (pathM s = none ∨ pathM s = some []) ∨ ∃ ns x, pathM s = some (ns ++ [x]) := by
  cases h : pathM s with
  | none => exact .inl (.inl rfl)
  | some ps =>
    cases ps with
    | nil => exact .inl (.inr rfl)
    | cons a r =>
      obtain ⟨ns, y, e, _⟩ := last_eq a r
      exact .inr ⟨ns, y, by rw [e]⟩

theorem joinM_size {ns : List Txt} (h8 : ns.length ≤ 8) (h : ∀ p ∈ ns, IsName p) : (ba (joinM ns)).size ≤ 1000000 := by
  rw [ba_size]
  show (47 :: joined ns).length ≤ _
  have := joined_le ns h
  rw [List.length_cons]
  omega

theorem fresh_cell {w w1 : World} {cs : Array Value} {ty : TypeId} (k : KF (w.alloc (.cells cs ty)) w1) (j : Nat) {v : Value} (h : cs[j]? = some v) : w1.cell? ⟨w.heap.size, j, none⟩ = some v := by
  rw [KF.cell k (by simp), World.cell?_alloc_mark]
  exact h
theorem fresh_open {w w1 : World} {cs : Array Value} {ty : TypeId} (k : KF (w.alloc (.cells cs ty)) w1) (j : Nat) : w1.frozen? ⟨w.heap.size, j, none⟩ = false := by
  rw [Keep.frozen k (by simp) (fun h => h)]
  have h := heap_alloc_new w (.cells cs ty)
  unfold World.frozen?
  rw [h]
  simp
theorem fresh_far {w w1 : World} {X : Obj} (k : KF (w.alloc X) w1) : KF w w1 := KF.trans ((KF.refl w).alloc X) k
theorem fresh_two {w w1 : World} {u v : Value} (k : KF w w1) : KF w ((w1.setCell ⟨w.heap.size, 0, none⟩ u).setCell ⟨w.heap.size, 1, none⟩ v) :=
  Keep.setCell (Keep.setCell k (.inl (Nat.le_refl _)) u) (.inl (Nat.le_refl _)) v

theorem place_some {t : Tr} {s : Txt} {ns : List Txt} {x : Txt} (h : pathM s = some (ns ++ [x])) : place t s = match walk t 0 ns with
    | .error e => .error e | .ok d => if (t d).kind ≠ 1 then .error 23 else match look (t d).entries x with | some _ => .error 22 | none => .ok (d, x) := by
  obtain ⟨a, r, h1, h2, h3⟩ := snoc_parts (ns := ns) (y := x)
  rw [h1] at h
  unfold place
  rw [h]
  simp only [h2, h3]
  rcases walk t 0 ns with e | d
  · rfl
  · simp only
    split
    · rfl
    · cases look (t d).entries x <;> rfl
theorem findUp_some {t : Tr} {s : Txt} {ns : List Txt} {x : Txt} (h : pathM s = some (ns ++ [x])) : findUp t s = match walk t 0 ns with
    | .error e => .error e | .ok d => if (t d).kind ≠ 1 then .error 23 else match look (t d).entries x with | none => .error 21 | some a => .ok (a, d, x) := by
  obtain ⟨a, r, h1, h2, h3⟩ := snoc_parts (ns := ns) (y := x)
  have hw := walk_append t 0 ns [x]
  rw [h1] at h hw
  unfold findUp
  rw [h]
  simp only [h2, h3, hw]
  rcases walk t 0 ns with e | d
  · rfl
  · simp only [walk]
    by_cases hk : (t d).kind = 1
    · rw [if_neg (by omega), if_neg (by omega)]
      cases look (t d).entries x <;> rfl
    · rw [if_pos hk, if_pos hk]
theorem up_no {t : Tr} {s : Txt} {k : Nat} (h : upM t s = .error k) : place t s = .error k ∧ findUp t s = .error k := by
  rcases pathM_cases s with hp | ⟨ns, x, hp⟩
  · rw [upM_no hp] at h
    injection h with h
    subst h
    unfold place findUp
    rcases hp with hp | hp <;> rw [hp] <;> exact ⟨rfl, rfl⟩
  · rw [upM_some hp] at h
    rw [place_some hp, findUp_some hp]
    rcases hn : walk t 0 ns with e | d
    · rw [hn] at h
      injection h with h
      rw [h]
      exact ⟨rfl, rfl⟩
    · rw [hn] at h
      simp only at h ⊢
      by_cases hk : (t d).kind ≠ 1
      · rw [if_pos hk] at h
        rw [if_pos hk, if_pos hk]
        exact ⟨by injection h with h; rw [h], by injection h with h; rw [h]⟩
      · rw [if_neg hk] at h
        cases h
theorem up_ok {t : Tr} {s : Txt} {d : Nat} {x : Txt} (h : upM t s = .ok (d, x)) : ∃ ns, pathM s = some (ns ++ [x]) ∧ walk t 0 ns = .ok d ∧ (t d).kind = 1 := by
  rcases pathM_cases s with hp | ⟨ns, y, hp⟩
  · rw [upM_no hp] at h
    cases h
  · rw [upM_some hp] at h
    rcases hn : walk t 0 ns with e | d'
    · rw [hn] at h
      cases h
    · rw [hn] at h
      simp only at h
      split at h
      · cases h
      · next hk =>
        injection h with h
        injection h with h1 h2
        subst h1 h2
        exact ⟨ns, hp, hn, by omega⟩
theorem up_free {t : Tr} {s : Txt} {d : Nat} {x : Txt} (h : upM t s = .ok (d, x)) (hl : look (t d).entries x = none) : place t s = .ok (d, x) ∧ findUp t s = .error 21 := by
  obtain ⟨ns, hp, hw, hk⟩ := up_ok h
  rw [place_some hp, findUp_some hp, hw]
  simp only [hl]
  rw [if_neg (by omega), if_neg (by omega)]
  exact ⟨rfl, rfl⟩
theorem up_taken {t : Tr} {s : Txt} {d a : Nat} {x : Txt} (h : upM t s = .ok (d, x)) (hl : look (t d).entries x = some a) : place t s = .error 22 ∧ findUp t s = .ok (a, d, x) := by
  obtain ⟨ns, hp, hw, hk⟩ := up_ok h
  rw [place_some hp, findUp_some hp, hw]
  simp only [hl]
  rw [if_neg (by omega), if_neg (by omega)]
  exact ⟨rfl, rfl⟩
end Go.Proofs.YtlkiaghpdjbfeaaDoor

namespace Go.Proofs.YtlkiaghpdjbfeaaDoor
open Go.RowKit

/-- A call's cells, as a list. -/
abbrev callL (c : TCall) (A : Option Addr) (c0 : Nat) : List Value := [.int .i64 c.kind, .string (ba c.path), .string (ba c.other), .int .i64 c.off, .int .i64 c.n, .slice A c.data.length c0]
/-- From the address A on, in blocks below B, lie the calls cs. -/
def CallsAt (w : World) (B : Nat) (A : Option Addr) (cs : List TCall) : Prop :=
  ∀ j c, cs[j]? = some c → ∃ b o A1 c1, A = some ⟨b, o, none⟩ ∧ b < B ∧ (∀ i u, (callL c A1 c1)[i]? = some u → w.cell? ⟨b, o + j * 6 + i, none⟩ = some u) ∧ Rd w B A1 c.data
theorem CallsAt.keep {w w' : World} {B : Nat} {A : Option Addr} {cs : List TCall} (h : CallsAt w B A cs) (k : KF w w') (hB : B ≤ w.heap.size) : CallsAt w' B A cs := fun j c hj => by
  obtain ⟨b, o, A1, c1, rfl, hb, hc, hr⟩ := h j c hj
  exact ⟨b, o, A1, c1, rfl, hb, fun i u hi => (k.cell (Nat.lt_of_lt_of_le hb hB)).trans (hc i u hi), hr.keepF k hB⟩

theorem CallsAt.more {w : World} {B B' : Nat} {A : Option Addr} {cs : List TCall} (h : CallsAt w B A cs) (hB : B ≤ B') : CallsAt w B' A cs := fun j c hj => by
  obtain ⟨b, o, A1, c1, rfl, hb, hc, hr⟩ := h j c hj
  exact ⟨b, o, A1, c1, rfl, by omega, hc, hr.more hB⟩
end Go.Proofs.YtlkiaghpdjbfeaaDoor

namespace Go.Proofs.YtlkiaghpdjbfeaaDoor
open Go.RowKit
variable {Zp : Nat → Prop}

section
variable {w w' : World} {g n : Nat} {x : TNode} {t : Tr}
/-- The block, in 320 cells. -/
def Blk (w : World) (g : Nat) : Prop := ∃ cs, w.heap[g]? = some (.cells cs 49 (0, 0)) ∧ cs.size = 320
theorem Blk.set (h : Blk w g) (i : Nat) (v : Value) : Blk (w.setCell ⟨g, i, none⟩ v) g := by
  obtain ⟨cs, h1, h2⟩ := h
  exact ⟨_, Go.heap_setCell_same w g i cs _ v h1, by simp [h2]⟩
theorem Blk.some (h : Blk w g) {i : Nat} (hi : i < 320) : (w.cell? ⟨g, i, none⟩).isSome = true := by
  obtain ⟨cs, h1, h2⟩ := h
  simp [World.cell?, h1, h2, hi]
theorem Blk.same (h : Blk w g) {i : Nat} (hi : i < 320) (v : Value) : (w.setCell ⟨g, i, none⟩ v).cell? ⟨g, i, none⟩ = Option.some v :=
  World.cell?_setCell_same' w _ v (h.some hi)
theorem cell_other (w : World) (g : Nat) {i j : Nat} (h : i ≠ j) (v : Value) : (w.setCell ⟨g, i, none⟩ v).cell? ⟨g, j, none⟩ = w.cell? ⟨g, j, none⟩ :=
  World.cell?_setCell_other _ _ _ _ (by intro e; simp only [Addr.mk.injEq] at e; omega)
theorem RefAt.upd (h : RefAt Zp w g t) (hb : Blk w' g) (k : Keep (fun i => i = g) w w') (ho : ∀ m, m < 64 → m ≠ n → ∀ j, j < 5 → w'.cell? ⟨g, m * 5 + j, none⟩ = w.cell? ⟨g, m * 5 + j, none⟩) (hx : RNode Zp w' g n x) : RefAt Zp w' g (t.set n x) := by
  refine ⟨hb, fun m hm => ?_, fun b hb' => h.new b (Nat.le_trans k.size hb')⟩
  unfold Tr.set
  by_cases e : m = n
  · rw [if_pos e, e]
    exact hx
  · rw [if_neg e]
    have r := h.node m hm
    have c := ho m hm e
    obtain ⟨A, d, h1, h2, h3⟩ := r.data
    obtain ⟨A', d', e1, e2, e3, e4, e5⟩ := r.ents
    refine ⟨(c 0 (by omega)).trans r.num, (c 1 (by omega)).trans r.kind, (c 2 (by omega)).trans r.links, ⟨A, d, (c 3 (by omega)).trans h1, ?_, h3⟩, ⟨A', d', (c 4 (by omega)).trans e1, e2, e3, ?_, e5⟩⟩
    · exact (h2.keepS (Nat.le_refl _) k (fun a ha => (h3 a ha).1)).more k.size
    · exact (e4.keep (Nat.le_refl _) k (fun a ha => (e5 a ha).1)).more k.size
theorem keep1 (w : World) (g i : Nat) (v : Value) : Keep (fun k => k = g) w (w.setCell ⟨g, i, none⟩ v) := (Keep.refl (fun k => k = g) w).setCell (p := ⟨g, i, none⟩) (.inr rfl) v
theorem RefAt.setEnts (h : RefAt Zp w g t) (hn : n < 64) {A : Option Addr} {c l : Nat} {es : Row} (hl : l = es.length) (hc : l ≤ c) (hm : c ≤ maxLen) (he : Ents w w.heap.size A es) (hA : ∀ a : Addr, A = some a → a.block ≠ g) (hZ : ∀ a : Addr, A = some a → w.heap.size ≤ a.block ∨ Zp a.block) :
    RefAt Zp (w.setCell ⟨g, n * 5 + 4, none⟩ (.slice A l c)) g (t.rows n es) := by
  subst hl
  have k := keep1 w g (n * 5 + 4) (.slice A es.length c)
  have r := h.node n hn
  have c' : ∀ j, j < 4 → (w.setCell ⟨g, n * 5 + 4, none⟩ (.slice A es.length c)).cell? ⟨g, n * 5 + j, none⟩ = w.cell? ⟨g, n * 5 + j, none⟩ := fun j hj => cell_other w g (by omega) _
  obtain ⟨A1, d, h1, h2, h3⟩ := r.data
  refine h.upd (Blk.set h.blk _ _) k (fun m hm' hmn j hj => cell_other w g (by omega) _) ⟨(c' 0 (by omega)).trans r.num, (c' 1 (by omega)).trans r.kind, (c' 2 (by omega)).trans r.links, ⟨A1, d, (c' 3 (by omega)).trans h1, (h2.keepS (Nat.le_refl _) k (fun a ha => (h3 a ha).1)).more k.size, h3⟩, ⟨A, c, ?_, hc, hm, (he.keep (Nat.le_refl _) k hA).more k.size, fun a ha => ⟨hA a ha, fun _ => (hZ a ha).elim (h.new _) id⟩⟩⟩
  exact Blk.same h.blk (by omega) _
theorem RefAt.setData (h : RefAt Zp w g t) (hn : n < 64) {A : Option Addr} {c l : Nat} {b : Txt} (hl : l = b.length) (he : Rd w w.heap.size A b) (hA : ∀ a : Addr, A = some a → a.block ≠ g) (hZ : ∀ a : Addr, A = some a → w.heap.size ≤ a.block ∨ Zp a.block) :
    RefAt Zp (w.setCell ⟨g, n * 5 + 3, none⟩ (.slice A l c)) g (t.bytes n b) := by
  subst hl
  have k := keep1 w g (n * 5 + 3) (.slice A b.length c)
  have r := h.node n hn
  have c' : ∀ j, j ≠ 3 → j < 5 → (w.setCell ⟨g, n * 5 + 3, none⟩ (.slice A b.length c)).cell? ⟨g, n * 5 + j, none⟩ = w.cell? ⟨g, n * 5 + j, none⟩ := fun j hj _ => cell_other w g (by omega) _
  obtain ⟨A1, d, e1, e2, e3, e4, e5⟩ := r.ents
  refine h.upd (Blk.set h.blk _ _) k (fun m hm' hmn j hj => cell_other w g (by omega) _) ⟨(c' 0 (by omega) (by omega)).trans r.num, (c' 1 (by omega) (by omega)).trans r.kind, (c' 2 (by omega) (by omega)).trans r.links, ⟨A, c, ?_, (he.keepS (Nat.le_refl _) k hA).more k.size, fun a ha => ⟨hA a ha, fun _ => (hZ a ha).elim (h.new _) id⟩⟩, ⟨A1, d, (c' 4 (by omega) (by omega)).trans e1, e2, e3, (e4.keep (Nat.le_refl _) k (fun a ha => (e5 a ha).1)).more k.size, e5⟩⟩
  exact Blk.same h.blk (by omega) _
theorem RefAt.setLinks (h : RefAt Zp w g t) (hn : n < 64) (l : Nat) : RefAt Zp (w.setCell ⟨g, n * 5 + 2, none⟩ (.int .i64 (l : Int))) g (t.set n ⟨(t n).kind, l, (t n).data, (t n).entries⟩) := by
  have k := keep1 w g (n * 5 + 2) (.int .i64 (l : Int))
  have r := h.node n hn
  have c' : ∀ j, j ≠ 2 → j < 5 → (w.setCell ⟨g, n * 5 + 2, none⟩ (.int .i64 (l : Int))).cell? ⟨g, n * 5 + j, none⟩ = w.cell? ⟨g, n * 5 + j, none⟩ := fun j hj _ => cell_other w g (by omega) _
  obtain ⟨A1, d, e1, e2, e3, e4, e5⟩ := r.ents
  obtain ⟨A2, d2, h1, h2, h3⟩ := r.data
  refine h.upd (Blk.set h.blk _ _) k (fun m hm' hmn j hj => cell_other w g (by omega) _) ⟨(c' 0 (by omega) (by omega)).trans r.num, (c' 1 (by omega) (by omega)).trans r.kind, ?_, ⟨A2, d2, (c' 3 (by omega) (by omega)).trans h1, (h2.keepS (Nat.le_refl _) k (fun a ha => (h3 a ha).1)).more k.size, h3⟩, ⟨A1, d, (c' 4 (by omega) (by omega)).trans e1, e2, e3, (e4.keep (Nat.le_refl _) k (fun a ha => (e5 a ha).1)).more k.size, e5⟩⟩
  exact Blk.same h.blk (by omega) _
/-- A node with neither bytes nor entries is laid over another one. -/
theorem RefAt.setNode (h : RefAt Zp w g t) (hn : n < 64) (kd l : Nat) (z : Int) (hz : z = ((if kd = 0 then 0 else n : Nat) : Int)) :
    RefAt Zp (((((w.setCell ⟨g, n * 5, none⟩ (.int .i64 z)).setCell ⟨g, n * 5 + 1, none⟩ (.int .i64 (kd : Int))).setCell ⟨g, n * 5 + 2, none⟩ (.int .i64 (l : Int))).setCell ⟨g, n * 5 + 3, none⟩ (.slice none 0 0)).setCell ⟨g, n * 5 + 4, none⟩ (.slice none 0 0)) g (t.set n ⟨kd, l, [], []⟩) := by
  have b1 := Blk.set h.blk (n * 5) (.int .i64 z)
  have b2 := Blk.set b1 (n * 5 + 1) (.int .i64 (kd : Int))
  have b3 := Blk.set b2 (n * 5 + 2) (.int .i64 (l : Int))
  have b4 := Blk.set b3 (n * 5 + 3) (.slice none 0 0)
  have b5 := Blk.set b4 (n * 5 + 4) (.slice none 0 0)
  have tr : ∀ {a b c : World}, Keep (fun k => k = g) a b → Keep (fun k => k = g) b c → Keep (fun k => k = g) a c := fun p q => Keep.trans p q (fun _ _ h => h)
  refine h.upd b5 (tr (tr (tr (tr (keep1 _ g _ _) (keep1 _ g _ _)) (keep1 _ g _ _)) (keep1 _ g _ _)) (keep1 _ g _ _)) (fun m hm' hmn j hj => ?_) ⟨?_, ?_, ?_, ⟨none, 0, ?_, fun j b hj => by simp at hj, fun a e => by cases e⟩, ⟨none, 0, ?_, Nat.zero_le _, Nat.zero_le _, Ents.nil, fun a e => by cases e⟩⟩
  · rw [cell_other _ g (by omega), cell_other _ g (by omega), cell_other _ g (by omega), cell_other _ g (by omega), cell_other _ g (by omega)]
  · rw [cell_other _ g (by omega), cell_other _ g (by omega), cell_other _ g (by omega), cell_other _ g (by omega), Blk.same h.blk (by omega), hz]
  · rw [cell_other _ g (by omega), cell_other _ g (by omega), cell_other _ g (by omega), Blk.same b1 (by omega)]
  · rw [cell_other _ g (by omega), cell_other _ g (by omega), Blk.same b2 (by omega)]
  · rw [cell_other _ g (by omega), Blk.same b3 (by omega)]; rfl
  · rw [Blk.same b4 (by omega)]; rfl
theorem keep5 (w : World) (g a b c d e : Nat) (v0 v1 v2 v3 v4 : Value) : Keep (fun k => k = g) w (((((w.setCell ⟨g, a, none⟩ v0).setCell ⟨g, b, none⟩ v1).setCell ⟨g, c, none⟩ v2).setCell ⟨g, d, none⟩ v3).setCell ⟨g, e, none⟩ v4) := by
  have tr : ∀ {a b c : World}, Keep (fun k => k = g) a b → Keep (fun k => k = g) b c → Keep (fun k => k = g) a c := fun p q => Keep.trans p q (fun _ _ h => h)
  exact tr (tr (tr (tr (keep1 _ g _ _) (keep1 _ g _ _)) (keep1 _ g _ _)) (keep1 _ g _ _)) (keep1 _ g _ _)
/-- A change in a block that holds neither bytes nor texts leaves the tree. -/
theorem RefAt.keepFar (h : RefAt Zp w g t) {c : Nat} {cs : Array Value} {T : TypeId} {fr : Nat × Nat} (hc : w.heap[c]? = some (.cells cs T fr)) (hu : ∀ x ∈ cs.toList, ∀ z, x ≠ .int .u8 z) (hs : ∀ x ∈ cs.toList, ∀ z, x ≠ .string z) (k : Keep (fun i => i = c) w w') (hg : c ≠ g) : RefAt Zp w' g t := by
  have hl := h.lt
  have cc : ∀ j, w'.cell? ⟨g, j, none⟩ = w.cell? ⟨g, j, none⟩ := fun j => k.cell (p := ⟨g, j, none⟩) hl (by show ¬ g = c; omega)
  obtain ⟨ds, hb1, hb2⟩ := h.blk
  refine ⟨⟨ds, (k.block g hl (by omega)).trans hb1, hb2⟩, fun n hn => ?_, fun b hb => h.new b (Nat.le_trans k.size hb)⟩
  have r := h.node n hn
  obtain ⟨A, d, h1, h2, h3⟩ := r.data
  obtain ⟨A', d', e1, e2, e3, e4, e5⟩ := r.ents
  refine ⟨(cc _).trans r.num, (cc _).trans r.kind, (cc _).trans r.links, ⟨A, d, (cc _).trans h1, fun j b hj => ?_, h3⟩, ⟨A', d', (cc _).trans e1, e2, e3, fun j e hj => ?_, e5⟩⟩
  · obtain ⟨a, rfl, hb, hcell⟩ := h2 j b hj
    have hjl : j < (t n).data.length := by
      rcases Nat.lt_or_ge j (t n).data.length with h' | h'
      · exact h'
      · rw [List.getElem?_eq_none h'] at hj; cases hj
    have hne := h2.far hc hu j hjl a rfl
    have hsz := k.size
    exact ⟨a, rfl, by omega, (k.cell (by rw [block_add]; exact hb) (by rw [block_add]; exact hne)).trans hcell⟩
  · obtain ⟨b, o, rfl, hb, m1, m2⟩ := e4 j e hj
    have hne : b ≠ c := by
      rintro rfl
      simp only [World.cell?, hc] at m1
      have hm : Value.string (ba e.1) ∈ cs.toList := by
        have : cs[o + j * 2]? = some (.string (ba e.1)) := by simpa using m1
        exact Array.mem_toList_iff.2 (Array.mem_of_getElem? this)
      exact hs _ hm _ rfl
    have hsz := k.size
    exact ⟨b, o, rfl, by omega, (k.cell (p := ⟨b, o + j * 2, none⟩) hb hne).trans m1, (k.cell (p := ⟨b, o + j * 2 + 1, none⟩) hb hne).trans m2⟩
end
end Go.Proofs.YtlkiaghpdjbfeaaDoor

namespace Go.Proofs.YtlkiaghpdjbfeaaDoor
open Go.RowKit
variable {Zp : Nat → Prop}

/-- 64 nodes, none of which there is. -/
def zNode : List Value := [.int .i64 0, .int .i64 0, .int .i64 0, .slice none 0 0, .slice none 0 0]
def zT : Array Value := ((List.range 64).flatMap fun _ => zNode).toArray
theorem zT_size : zT.size = 320 := by kernel_rfl
theorem flat5_get (j : Nat) (hj : j < 5) : ∀ (m n : Nat) (f : List Nat), f.length = m → n < m → (f.flatMap fun _ => zNode)[n * 5 + j]? = zNode[j]?
  | 0, n, f, _, h => by omega
  | m + 1, n, [], h, _ => by simp at h
  | m + 1, 0, a :: f, _, _ => by
    rw [List.flatMap_cons, Nat.zero_mul, Nat.zero_add, List.getElem?_append_left hj]
  | m + 1, n + 1, a :: f, h, hn => by
    rw [List.flatMap_cons, List.getElem?_append_right (by show 5 ≤ _; omega)]
    have := flat5_get j hj m n f (by simpa using h) (by omega)
    have e : (n + 1) * 5 + j - zNode.length = n * 5 + j := by show _ - 5 = _; omega
    rw [e, this]
theorem zT_get {n j : Nat} (hn : n < 64) (hj : j < 5) : zT[n * 5 + j]? = zNode[j]? := by
  unfold zT
  rw [List.getElem?_toArray]
  exact flat5_get j hj 64 n _ (by simp) hn
theorem zeroT (w : World) : (zeroValue 49).run Tryd.prog w = .ok (.agg zT) w := by rw [Tryd.zeroValue49]; kernel_rfl
theorem storeT (w : World) : (storeCells ⟨w.heap.size, 0, none⟩ zT.toList 0).run Tryd.prog (w.alloc (.cells zT 49)) = .ok () (w.alloc (.cells zT 49)) :=
  run_storeCells_new w 49 zT zT (by kernel_rfl) rfl (by kernel_rfl)
attribute [local go_sem] zT_size
attribute [local go_sem ↓] zeroT storeT
theorem refAt_zero (w : World) (hZ : ∀ b, w.heap.size ≤ b → Zp b) : RefAt Zp (w.alloc (.cells zT 49)) w.heap.size (fun _ => noNode) := by
  have hb := heap_alloc_new w (.cells zT 49)
  have c : ∀ n j, n < 64 → j < 5 → ∀ v, zNode[j]? = some v → (w.alloc (.cells zT 49)).cell? ⟨w.heap.size, n * 5 + j, none⟩ = some v := fun n j hn hj v hv => by
    rw [World.cell?_alloc_mark]
    show zT[n * 5 + j]? = _
    rw [zT_get hn hj, hv]
  exact ⟨⟨zT, hb, zT_size⟩, fun n hn => ⟨c n 0 hn (by omega) _ rfl, c n 1 hn (by omega) _ rfl, c n 2 hn (by omega) _ rfl, ⟨none, 0, c n 3 hn (by omega) _ rfl, fun j b hj => by simp [noNode] at hj, fun a e => by cases e⟩, ⟨none, 0, c n 4 hn (by omega) _ rfl, Nat.zero_le _, Nat.zero_le _, Ents.nil, fun a e => by cases e⟩⟩, fun b hb => hZ b (Nat.le_trans (by simp) hb)⟩
set_option maxRecDepth 100000 in
theorem rnew_any (w : World) (hZ : ∀ b, w.heap.size ≤ b → Zp b) : Calls Tryd.prog 5 #[] w fun e w' => ∃ g, e = .returned (.pointer (some ⟨g, 0, none⟩)) ∧ w.heap.size ≤ g ∧ KF w w' ∧ RefAt Zp w' g newT := by
  obtain ⟨g, hg⟩ : ∃ g, w.heap.size = g := ⟨_, rfl⟩
  obtain ⟨w1, hw1⟩ : ∃ w1, w.alloc (.cells zT 49) = w1 := ⟨_, rfl⟩
  have hR : RefAt Zp w1 g (fun _ => noNode) := by rw [← hw1, ← hg]; exact refAt_zero w hZ
  have k1 : KF w w1 := by rw [← hw1]; exact (KF.refl _).alloc _
  have HF := Lib.hid (hR.setNode (n := 0) (by omega) 1 1 0 rfl)
  have hb := hR.blk
  have c0 := Blk.some hb (i := 0) (by omega)
  have HW := Lib.hid hw1
  have HG := Lib.hid hg
  have HB := Lib.hid hR
  clear hw1 hg hR hb c0
  go_enter Tryd.func5, Tryd.ntmps5
  go_upto_region 2 with fail
  rw [HW.out, HG.out]
  have hg' : w.heap.size ≤ g := Nat.le_of_eq HG.out
  have FIN : Hid (KF w (((((w1.setCell ⟨g, 0, none⟩ (.int .i64 0)).setCell ⟨g, 1, none⟩ (.int .i64 1)).setCell ⟨g, 2, none⟩ (.int .i64 1)).setCell ⟨g, 3, none⟩ (.slice none 0 0)).setCell ⟨g, 4, none⟩ (.slice none 0 0)) ∧ RefAt Zp (((((w1.setCell ⟨g, 0, none⟩ (.int .i64 0)).setCell ⟨g, 1, none⟩ (.int .i64 1)).setCell ⟨g, 2, none⟩ (.int .i64 1)).setCell ⟨g, 3, none⟩ (.slice none 0 0)).setCell ⟨g, 4, none⟩ (.slice none 0 0)) g newT) := Lib.hid ⟨Keep.setCell (Keep.setCell (Keep.setCell (Keep.setCell (Keep.setCell k1 (.inl hg') _) (.inl hg') _) (.inl hg') _) (.inl hg') _) (.inl hg') _, HF.out⟩
  have c0 : w1.cell? ⟨g, 0, none⟩ = some (.int .i64 0) := (HB.out.node 0 (by omega)).num
  have c1 : w1.cell? ⟨g, 1, none⟩ = some (.int .i64 0) := (HB.out.node 0 (by omega)).kind
  have c2 : w1.cell? ⟨g, 2, none⟩ = some (.int .i64 0) := (HB.out.node 0 (by omega)).links
  obtain ⟨A3, d3, c3, _⟩ := (HB.out.node 0 (by omega)).data
  obtain ⟨A4, d4, c4, _⟩ := (HB.out.node 0 (by omega)).ents
  have c3 : w1.cell? ⟨g, 3, none⟩ = some (.slice A3 0 d3) := c3
  have c4 : w1.cell? ⟨g, 4, none⟩ = some (.slice A4 0 d4) := c4
  have f0 := HB.out.free 0
  have f1 := HB.out.free 1
  have f2 := HB.out.free 2
  have f3 := HB.out.free 3
  have f4 := HB.out.free 4
  clear HF k1 HW HG
  go_wp2_with fail
  go_ret
  exact ⟨g, rfl, hg', FIN.out.1, FIN.out.2⟩
end Go.Proofs.YtlkiaghpdjbfeaaDoor

namespace Go.Proofs.YtlkiaghpdjbfeaaDoor
open Go.RowKit
variable {Zp : Nat → Prop}

theorem rent_law : Et Tryd.prog 44 80 :=
  ⟨Tryd.underlying44, (Tryd.prog.info? 80).get (by kernel_rfl), .agg #[.string ⟨#[]⟩, .int .i64 0], by kernel_rfl, by kernel_rfl, by kernel_rfl, by kernel_rfl, by kernel_rfl⟩
theorem drop_take {es : Row} {x : Txt} {k : Nat} (hk : k < es.length) : drop (es.take (k + 1)) x = drop (es.take k) x ++ (if es[k].1 = x then [] else [es[k]]) := by
  rw [List.take_succ_eq_append_getElem hk]
  unfold drop
  rw [List.filter_append]
  by_cases h : es[k].1 = x
  · rw [if_pos h]; simp [h]
  · rw [if_neg h]; simp [h]
set_option maxRecDepth 100000 in
theorem rdrop_any (w : World) (g : Nat) (t : Tr) (n : Nat) (x : Txt) (h : RefAt Zp w g t) (hn : n < 64) (hb : (t n).entries.length ≤ 1000000) :
    Calls Tryd.prog 36 #[.pointer (some ⟨g, 0, none⟩), .int .i64 n, .string (ba x)] w fun e w' => e = .returned (.tuple #[]) ∧ Keep (fun i => i = g) w w' ∧ RefAt Zp w' g (t.rows n (drop (t n).entries x)) := by
  obtain ⟨A, c, h1, h2, h3, h4, h5⟩ := (h.node n hn).ents
  have hni : (n : Int) < 64 := by omega
  have HT := Lib.hid h4
  have HLT := Lib.hid h.lt
  have HR := Lib.hid fun W (k : KF w W) => h.kept k
  have FIN : Hid (∀ (W : World) (A' : Option Addr) (n' c' : Nat), KF w W → OwnE 80 W (.slice A' n' c') (drop (t n).entries x) → NB w (.slice A' n' c') → Keep (fun i => i = g) w (W.setCell ⟨g, n * 5 + 4, none⟩ (.slice A' n' c')) ∧ RefAt Zp (W.setCell ⟨g, n * 5 + 4, none⟩ (.slice A' n' c')) g (t.rows n (drop (t n).entries x))) := Lib.hid (by
    intro W A' n' c' k o nb
    obtain ⟨A1, c1, e1, e2, e3, e4, e5⟩ := o.shape
    injection e1 with e1 e6 e7
    subst e1 e6 e7
    refine ⟨Keep.trans (Keep.mono k (fun _ _ h => h.elim)) (keep1 W g _ _) (fun i hi hs => hs), (h.kept k).setEnts hn rfl e2 e3 e4 (fun a ha => ?_) (fun a ha => .inr (h.new _ (nb _ (e5 a ha))))⟩
    have := nb _ (e5 a ha)
    have := h.lt
    omega)
  clear h h4 h5
  generalize t.rows n (drop (t n).entries x) = T2 at *
  generalize (t n).entries = es at *
  obtain ⟨len, hlen⟩ : ∃ len, es.length = len := ⟨_, rfl⟩
  rw [hlen] at h1 h2 hb
  have HL := Lib.hid hlen
  clear hlen
  obtain ⟨sx, hsx⟩ : ∃ sx, ba x = sx := ⟨_, rfl⟩
  have HX := Lib.hid hsx
  rw [hsx]
  clear hsx
  go_enter Tryd.func36, Tryd.ntmps36
  go_wp2_with fail
  go_loopg [7, 8] len (fun gh s7 i wr => ∃ (k n' c' : Nat) (A' : Option Addr), k ≤ len ∧ len - k ≤ gh ∧ s7 = .slice A' n' c' ∧ i = .int .i64 k ∧ OwnE 80 wr (.slice A' n' c') (drop (es.take k) x) ∧ NB w (.slice A' n' c') ∧ KF w wr)
  case atStart => exact ⟨0, 0, 0, _, by omega, by omega, rfl, rfl, OwnE.empty _ _, NB.new (Nat.le_refl _) _ _, (KF.refl _).alloc _⟩
  case round =>
    obtain ⟨k, n', c', A', hk, hg, rfl, rfl, ho, hnb, kr⟩ := hrel
    rcases Nat.lt_or_ge k len with hlt | hge
    · have hlt' : (k : Int) < (len : Int) := by omega
      have q1 : k < es.length := by rw [HL.out]; exact hlt
      obtain ⟨b, o, rfl, hbb, n0, n1⟩ := ((HT.out.keep (Nat.le_refl _) kr (fun _ _ h => h)).more kr.size).at_ q1
      have HTK := Lib.hid (drop_take (x := x) q1)
      have hdl : (drop (es.take k) x).length ≤ k := by
        refine Nat.le_trans (List.length_filter_le _ _) ?_
        rw [List.length_take]; omega
      by_cases he : es[k].1 = x
      · have hbe : ((ba es[k].1).toList == sx.toList) = true := by rw [he, HX.out]; simp
        have hbe2 : ((ba es[k].1).toList != sx.toList) = false := by rw [bne, hbe]; rfl
        have HE : Hid (drop (es.take (k + 1)) x = drop (es.take k) x) := Lib.hid (by rw [HTK.out, if_pos he, List.append_nil])
        clear he
        generalize ba es[k].1 = sy at *
        go_wp2_with fail
        go_roundg (len - (k + 1))
        case measure => omega
        case rel => exact ⟨k + 1, n', c', A', by omega, by omega, rfl, by go_num, by rw [HE.out]; exact ho, hnb, kr⟩
      · have hbe : ((ba es[k].1).toList == sx.toList) = false := by
          rw [← HX.out, Lib.toList_data, Lib.toList_data]
          exact beq_eq_false_iff_ne.2 he
        have hbe2 : ((ba es[k].1).toList != sx.toList) = true := by rw [bne, hbe]; rfl
        have HE : Hid (drop (es.take (k + 1)) x = drop (es.take k) x ++ [es[k]]) := Lib.hid (by rw [HTK.out, if_neg he])
        clear he HTK
        generalize es[k] = e at *
        have hb2 : (drop (es.take k) x).length + [e].length ≤ 1000000000 := by simp only [List.length_cons, List.length_nil]; omega
        have ON := Lib.hid (ents_one wr e 80)
        obtain ⟨sy, hsy⟩ : ∃ sy, ba e.1 = sy := ⟨_, rfl⟩
        rw [hsy] at n0 hbe hbe2 ON
        clear hsy
        go_wp2_with (at_builtin; refine wpList_append_ent _ rfl _ _ _ rfl rent_law (.slice A' n' c') (drop (es.take k) x) rfl (ho.alloc _) (wr.heap.size + 1) (some ⟨wr.heap.size, 0, none⟩) 1 1 [e] rfl rfl ON.out hb2 ?_; intro A4 n4 c4 w4 o4 e4 h4 m4 g4 f4)
        have k4 := (kr.alloc (.cells #[.string sy, .int .i64 (e.2 : Int)] 80)).own g4 hnb
        go_roundg (len - (k + 1))
        case measure => omega
        case rel =>
          rw [← HE.out] at o4
          exact ⟨k + 1, n4, c4, A4, by omega, by omega, rfl, by go_num, o4, hnb.next (Nat.le_trans kr.size (by simp)) f4, k4⟩
    · obtain rfl : k = len := by omega
      have hlt' : ¬ (k : Int) < (k : Int) := by omega
      have ce := (HR.out wr kr).node n hn
      have cf := (HR.out wr kr).free (n * 5 + 4)
      obtain ⟨A2, c2, ce1, _⟩ := ce.ents
      rw [← HL.out, List.take_length] at ho
      have FN := Lib.hid (FIN.out wr A' n' c' kr ho hnb)
      clear ce HR HT
      go_wp2_with fail
      go_end0
      exact ⟨rfl, FN.out.1, FN.out.2⟩
/-- What the reference says of an entry more. -/
theorem put_take {es : Row} {x : Txt} {k m : Nat} (hk : k ≤ es.length) (h1 : ∀ e ∈ es.take k, less e.1 x = true) (h2 : ∀ e, es[k]? = some e → less e.1 x = false) : put es x m = es.take k ++ [(x, m)] ++ es.drop k := by
  have key : ∀ (es : Row) (k : Nat), k ≤ es.length → (∀ e ∈ es.take k, less e.1 x = true) → (∀ e, es[k]? = some e → less e.1 x = false) → es.takeWhile (fun e => less e.1 x) = es.take k ∧ es.dropWhile (fun e => less e.1 x) = es.drop k := by
    intro es
    induction es with
    | nil => intro k hk _ _; simp at hk; subst hk; exact ⟨rfl, rfl⟩
    | cons a r ih =>
      intro k hk h1 h2
      cases k with
      | zero =>
        have := h2 a rfl
        exact ⟨by rw [List.takeWhile_cons, this]; rfl, by rw [List.dropWhile_cons, this]; rfl⟩
      | succ k =>
        have ha := h1 a (by simp)
        obtain ⟨i1, i2⟩ := ih k (by simpa using hk) (fun e he => h1 e (by simp [he])) (fun e he => h2 e (by simpa using he))
        exact ⟨by rw [List.takeWhile_cons, ha]; simp [i1], by rw [List.dropWhile_cons, ha]; simp [i2]⟩
  obtain ⟨a, b⟩ := key es k hk h1 h2
  unfold put
  rw [a, b]
  simp
end Go.Proofs.YtlkiaghpdjbfeaaDoor

namespace Go.Proofs.YtlkiaghpdjbfeaaDoor
open Go.RowKit

theorem ru8_law : U8 Tryd.prog 26 5 := ⟨Tryd.underlying26, (Tryd.prog.info? 5).get (by kernel_rfl), by kernel_rfl, by kernel_rfl, by kernel_rfl, by kernel_rfl⟩
theorem sized_more (b : Txt) {k : Nat} (h : k < b.length) : sized b (k + 1) = sized b k ++ [b[k]] := by
  unfold sized
  have e1 : k - b.length = 0 := by omega
  have e2 : k + 1 - b.length = 0 := by omega
  rw [e1, e2, List.take_succ_eq_append_getElem h]
  simp
theorem sized_nought (b : Txt) {k : Nat} (h : b.length ≤ k) : sized b (k + 1) = sized b k ++ [0] := by
  unfold sized
  have e1 : k + 1 - b.length = (k - b.length) + 1 := by omega
  rw [e1, List.replicate_succ', List.take_of_length_le h, List.take_of_length_le (by omega), List.append_assoc]
theorem sized_zero (b : Txt) : sized b 0 = [] := by simp [sized]
/-- Bytes of the reference's own. -/
def RSized (b : Txt) (w : World) (e : Ending) (w' : World) : Prop := ∃ A' n' c', e = .returned (.slice A' n' c') ∧ Own 5 w' (.slice A' n' c') b ∧ NB w (.slice A' n' c') ∧ KF w w'
set_option maxRecDepth 100000 in
theorem rsize_any (A : Option Addr) (b : Txt) (n c m : Nat) (w : World) (hn : n = b.length) (hm : m ≤ 1000000) (_hb : n ≤ 1000000) (hr : Rd w w.heap.size A b) :
    Calls Tryd.prog 38 #[.slice A n c, .int .i64 m] w (RSized (sized b m) w) := by
  have HR := Lib.hid hr
  have HN := Lib.hid hn
  clear hr hn
  go_enter Tryd.func38, Tryd.ntmps38
  go_wp2_with fail
  go_loopg [5, 6] m (fun gh s5 i wr => ∃ (k n' c' : Nat) (A' : Option Addr), k ≤ m ∧ m - k ≤ gh ∧ s5 = .slice A' n' c' ∧ i = .int .i64 k ∧ Own 5 wr (.slice A' n' c') (sized b k) ∧ NB w (.slice A' n' c') ∧ KF w wr)
  case atStart => exact ⟨0, 0, 0, _, by omega, by omega, rfl, rfl, by rw [sized_zero]; exact Own.lit 5 _ [] (by decide), NB.new (Nat.le_refl _) _ _, (KF.refl _).alloc _⟩
  case round =>
    obtain ⟨k, n', c', A', hk, hg, rfl, rfl, ho, hnb, kr⟩ := hrel
    have hsl := sized_length b k
    rcases Nat.lt_or_ge k m with hlt | hge
    · have hlt' : (k : Int) < (m : Int) := by omega
      rcases Nat.lt_or_ge k n with hkn | hkn
      · have hkn' : (k : Int) < (n : Int) := by omega
        have q1 : k < b.length := by rw [← HN.out]; exact hkn
        obtain ⟨a, rfl, hab, hc0⟩ := HR.out k b[k] (List.getElem?_eq_getElem q1)
        have hc1 := (KF.cell kr (p := a.add k) (by rw [block_add]; exact hab)).trans hc0
        have HS := Lib.hid (sized_more b q1)
        generalize b[k] = y at *
        have hb2 : (sized b k).length + [y].length ≤ 70368744177664 := by rw [hsl]; simp; omega
        have RL := Lib.hid (Rd.lit wr 5 (0, 0) [y] #[.int .u8 y.toNat] rfl)
        clear hc0 hsl
        go_wp2_with (at_builtin; refine wpList_append_u8 _ rfl _ _ _ rfl ru8_law (.slice A' n' c') (sized b k) rfl (ho.alloc _) (wr.heap.size + 1) (some ⟨wr.heap.size, 0, none⟩) 1 1 [y] rfl rfl RL.out hb2 ?_; intro A4 n4 c4 w4 o4 e4 h4 m4 g4 f4)
        have k4 := (kr.alloc (.cells #[.int .u8 y.toNat] 5)).own g4 hnb
        go_roundg (m - (k + 1))
        case measure => omega
        case rel =>
          rw [← HS.out] at o4
          exact ⟨k + 1, n4, c4, A4, by omega, by omega, rfl, by go_num, o4, hnb.next (Nat.le_trans kr.size (by simp)) f4, k4⟩
      · have hkn' : ¬ (k : Int) < (n : Int) := by omega
        have HS := Lib.hid (sized_nought b (k := k) (by rw [← HN.out]; exact hkn))
        have hb2 : (sized b k).length + [(0 : UInt8)].length ≤ 70368744177664 := by rw [hsl]; simp; omega
        have RL := Lib.hid (Rd.lit wr 5 (0, 0) [0] #[.int .u8 0] rfl)
        clear hsl
        go_wp2_with (at_builtin; refine wpList_append_u8 _ rfl _ _ _ rfl ru8_law (.slice A' n' c') (sized b k) rfl (ho.alloc _) (wr.heap.size + 1) (some ⟨wr.heap.size, 0, none⟩) 1 1 [0] rfl rfl RL.out hb2 ?_; intro A4 n4 c4 w4 o4 e4 h4 m4 g4 f4)
        have k4 := (kr.alloc (.cells #[.int .u8 0] 5)).own g4 hnb
        go_roundg (m - (k + 1))
        case measure => omega
        case rel =>
          rw [← HS.out] at o4
          exact ⟨k + 1, n4, c4, A4, by omega, by omega, rfl, by go_num, o4, hnb.next (Nat.le_trans kr.size (by simp)) f4, k4⟩
    · obtain rfl : k = m := by omega
      have hlt' : ¬ (k : Int) < (k : Int) := by omega
      clear hsl
      go_wp2_with fail
      go_ret
      exact ⟨A', n', c', rfl, ho, hnb, kr⟩
end Go.Proofs.YtlkiaghpdjbfeaaDoor

namespace Go.Proofs.YtlkiaghpdjbfeaaDoor

/-- The root, and in it the file f. -/
def fileT (b : Txt) : Tr := fun n => if n = 0 then ⟨1, 1, [], [([102], 1)]⟩ else if n = 1 then ⟨2, 1, b, []⟩ else noNode
theorem path_f : pathM [47, 102] = some [[102]] := by decide
theorem find_f (b : Txt) : find (fileT b) [47, 102] = .ok 1 := by
  unfold find
  rw [path_f]
  rfl
theorem findFile_f (b : Txt) : findFile (fileT b) [47, 102] = .ok 1 := by
  unfold findFile
  rw [find_f]
  rfl
theorem bytes_f (b b' : Txt) : (fileT b).bytes 1 b' = fileT b' := by
  funext n
  unfold Tr.bytes Tr.set fileT
  by_cases h1 : n = 1
  · subst h1; rfl
  · by_cases h0 : n = 0
    · subst h0; rfl
    · rw [if_neg h1, if_neg h0, if_neg h1, if_neg h0, if_neg h1]
theorem make_f (c : TCall) (hk : c.kind = 3) (hp : c.path = [47, 102]) : doT newT c = (okA, fileT []) := by
  refine doT_cases newT c (fun r => r = (okA, fileT [])) ?_ ?_ ?_ ?_ ?_ ?_ ?_ ?_ ?_ ?_ ?_ ?_ ?_
  case refine_3 =>
    intro _
    rw [hp]
    have hpl : place newT [47, 102] = .ok (0, [102]) := place_of (ns := []) path_f rfl rfl rfl
    have hl : least newT = some 1 := by rfl
    unfold doMake
    rw [hpl]
    simp only [hl]
    congr 1
    funext n
    by_cases h0 : n = 0
    · subst h0; rfl
    · by_cases h1 : n = 1
      · subst h1; rfl
      · unfold Tr.rows Tr.set fileT newT
        rw [if_neg h0, if_neg h1, if_neg h0, if_neg h0, if_neg h1]
  all_goals (intro h; omega)
theorem write_f (b : Txt) (c : TCall) (hk : c.kind = 7) (hp : c.path = [47, 102]) :
    doT (fileT b) c = if c.off < 0 ∨ 256 < c.data.length then (errA 1, fileT b) else if 512 < c.off.toNat + c.data.length then (errA 27, fileT b) else (okA, fileT (written b c.off.toNat c.data)) := by
  refine doT_cases (fileT b) c (fun r => r = _) ?_ ?_ ?_ ?_ ?_ ?_ ?_ ?_ ?_ ?_ ?_ ?_ ?_
  case refine_7 =>
    intro _
    rw [hp]
    unfold doWrite
    rw [findFile_f]
    simp only [bytes_f]
    rfl
  all_goals (intro h; omega)
theorem read_f (b : Txt) (c : TCall) (hk : c.kind = 8) (hp : c.path = [47, 102]) (h1 : 0 ≤ c.off) (h2 : 0 ≤ c.n) (h3 : c.n ≤ 256) : doT (fileT b) c = (⟨0, 0, 0, 0, (b.drop c.off.toNat).take c.n.toNat, []⟩, fileT b) := by
  refine doT_cases (fileT b) c (fun r => r = _) ?_ ?_ ?_ ?_ ?_ ?_ ?_ ?_ ?_ ?_ ?_ ?_ ?_
  case refine_8 =>
    intro _
    rw [hp]
    unfold doRead
    rw [findFile_f]
    simp only
    rw [if_neg (by omega)]
    rfl
  all_goals (intro h; omega)
theorem cut_f (b : Txt) (c : TCall) (hk : c.kind = 9) (hp : c.path = [47, 102]) (h2 : 0 ≤ c.n) (h3 : c.n ≤ 512) : doT (fileT b) c = (okA, fileT (sized b c.n.toNat)) := by
  refine doT_cases (fileT b) c (fun r => r = _) ?_ ?_ ?_ ?_ ?_ ?_ ?_ ?_ ?_ ?_ ?_ ?_ ?_
  case refine_9 =>
    intro _
    rw [hp]
    unfold doCut
    rw [findFile_f]
    simp only [bytes_f]
    rw [if_neg (by omega), if_neg (by omega)]
    rfl
  all_goals (intro h; omega)
theorem stat_f (b : Txt) (c : TCall) (hk : c.kind = 10) (hp : c.path = [47, 102]) : doT (fileT b) c = (⟨0, 2, b.length, 1, [], []⟩, fileT b) := by
  refine doT_cases (fileT b) c (fun r => r = _) ?_ ?_ ?_ ?_ ?_ ?_ ?_ ?_ ?_ ?_ ?_ ?_ ?_
  case refine_10 =>
    intro _
    rw [hp]
    unfold doStat
    rw [find_f]
    rfl
  all_goals (intro h; omega)

theorem sized_get (b : Txt) (n j : Nat) : (sized b n)[j]? = if j < n then some (b.getD j 0) else none := by
  unfold sized
  by_cases h : j < min n b.length
  · rw [List.getElem?_append_left (by rw [List.length_take]; exact h), List.getElem?_take, if_pos (by omega), if_pos (by omega), List.getD, List.getElem?_eq_getElem (by omega)]
    rfl
  · rw [List.getElem?_append_right (by rw [List.length_take]; omega), List.getElem?_replicate, List.length_take]
    by_cases h2 : j < n
    · rw [if_pos (by omega), if_pos h2, List.getD, List.getElem?_eq_none (by omega)]
      rfl
    · rw [if_neg (by omega), if_neg h2]
theorem over_get {b d : Txt} {off : Nat} (h : off + d.length ≤ b.length) (j : Nat) : (over b off d)[j]? = if off ≤ j ∧ j < off + d.length then d[j - off]? else b[j]? := by
  unfold over
  have ht : (b.take off).length = off := by rw [List.length_take]; omega
  by_cases h1 : j < off
  · rw [List.append_assoc, List.getElem?_append_left (by omega), List.getElem?_take, if_pos h1, if_neg (by omega)]
  · by_cases h2 : j < off + d.length
    · rw [List.append_assoc, List.getElem?_append_right (by omega), List.getElem?_append_left (by omega), ht, if_pos ⟨by omega, h2⟩]
    · rw [List.getElem?_append_right (by rw [List.length_append]; omega), List.length_append, ht, List.getElem?_drop, if_neg (by omega)]
      congr 1
      omega
theorem written_get {b d : Txt} {off : Nat} (hd : d ≠ []) (j : Nat) : (written b off d)[j]? = if j < max b.length (off + d.length) then some (if off ≤ j ∧ j < off + d.length then d.getD (j - off) 0 else b.getD j 0) else none := by
  unfold written
  rw [if_neg hd, over_get (by rw [sized_length]; omega), sized_get]
  by_cases h1 : off ≤ j ∧ j < off + d.length
  · rw [if_pos h1, if_pos h1, if_pos (by omega), List.getD, List.getElem?_eq_getElem (by omega)]
    rfl
  · rw [if_neg h1, if_neg h1]
/-- Noughts behind, up to a place; a byte there. -/
def reach (l : Txt) (n : Nat) : Txt := l ++ List.replicate (n + 1 - l.length) 0
theorem reach_get (l : Txt) (n j : Nat) : (reach l n)[j]? = if j < max l.length (n + 1) then some (l.getD j 0) else none := by
  unfold reach
  by_cases h : j < l.length
  · rw [List.getElem?_append_left h, if_pos (by omega), List.getD, List.getElem?_eq_getElem h]
    rfl
  · rw [List.getElem?_append_right (by omega), List.getElem?_replicate]
    by_cases h2 : j < n + 1
    · rw [if_pos (by omega), if_pos (by omega), List.getD, List.getElem?_eq_none (by omega)]
      rfl
    · rw [if_neg (by omega), if_neg (by omega)]
theorem reach_length (l : Txt) (n : Nat) : (reach l n).length = max l.length (n + 1) := by
  unfold reach
  rw [List.length_append, List.length_replicate]
  omega
theorem getD_of_get {l m : Txt} {i j : Nat} (h : l[i]? = m[j]?) : l.getD i 0 = m.getD j 0 := by rw [List.getD, List.getD, h]
/-- A byte more that is written. -/
theorem written_step (b : Txt) (off : Nat) (d : Txt) (k : Nat) (hk : k < d.length) : written b off (d.take (k + 1)) = (reach (written b off (d.take k)) (off + k)).set (off + k) d[k] := by
  have hl : (d.take (k + 1)).length = k + 1 := by rw [List.length_take]; omega
  have hl0 : (d.take k).length = k := by rw [List.length_take]; omega
  have hne : d.take (k + 1) ≠ [] := fun h => by rw [h] at hl; simp at hl
  have hwl : (written b off (d.take k)).length = if k = 0 then b.length else max b.length (off + k) := by
    unfold written
    by_cases h0 : k = 0
    · subst h0
      rw [if_pos (by simp), if_pos rfl]
    · rw [if_neg (fun h => h0 (by rw [h] at hl0; exact hl0.symm)), over_length (by rw [sized_length]; omega), sized_length, hl0, if_neg h0]
  apply List.ext_getElem?
  intro j
  have L := written_get (b := b) (off := off) hne j
  rw [hl] at L
  rw [L, List.getElem?_set, reach_length]
  by_cases hj : off + k = j
  · have c1 : j < max b.length (off + (k + 1)) := by omega
    have c2 : off ≤ j ∧ j < off + (k + 1) := by omega
    have c3 : off + k < max (written b off (d.take k)).length (off + k + 1) := by omega
    have e : j - off = k := by omega
    rw [if_pos c1, if_pos c2, if_pos hj, if_pos c3, e, List.getD, List.getElem?_take, if_pos (Nat.lt_succ_self k), List.getElem?_eq_getElem hk]
    rfl
  · rw [if_neg hj, reach_get]
    by_cases h0 : k = 0
    · subst h0
      have hw0 : written b off (d.take 0) = b := by unfold written; rw [if_pos (by simp)]
      have c0 : ¬ (off ≤ j ∧ j < off + (0 + 1)) := by omega
      rw [hw0, if_neg c0]
    · rw [if_neg h0] at hwl
      rw [hwl]
      by_cases h1 : j < max b.length (off + (k + 1))
      · have h2 : j < max (max b.length (off + k)) (off + k + 1) := by omega
        have h3 : j < max b.length (off + k) := by omega
        rw [if_pos h1, if_pos h2]
        congr 1
        have hne0 : d.take k ≠ [] := fun h => h0 (by rw [h] at hl0; exact hl0.symm)
        have hg := written_get (b := b) (off := off) hne0 j
        rw [hl0, if_pos h3] at hg
        have hr : (written b off (d.take k)).getD j 0 = if off ≤ j ∧ j < off + k then (d.take k).getD (j - off) 0 else b.getD j 0 := by
          rw [List.getD, hg]
          rfl
        rw [hr]
        by_cases h4 : off ≤ j ∧ j < off + k
        · have h5 : off ≤ j ∧ j < off + (k + 1) := by omega
          rw [if_pos h5, if_pos h4]
          apply getD_of_get
          have h6 : j - off < k + 1 := by omega
          have h7 : j - off < k := by omega
          rw [List.getElem?_take, List.getElem?_take, if_pos h6, if_pos h7]
        · have h5 : ¬ (off ≤ j ∧ j < off + (k + 1)) := by omega
          rw [if_neg h5, if_neg h4]
      · have h2 : ¬ j < max (max b.length (off + k)) (off + k + 1) := by omega
        rw [if_neg h1, if_neg h2]
theorem written_all (b : Txt) (off : Nat) (d : Txt) : written b off (d.take d.length) = written b off d := by rw [List.take_length]
theorem written_none (b : Txt) (off : Nat) (d : Txt) : written b off (d.take 0) = b := by unfold written; rw [if_pos (by simp)]
/-- What is read, piece by piece. -/
theorem read_all {b : Txt} (h : b.length ≤ 512) : (b.drop 0).take 256 ++ (b.drop 256).take 256 = b := by
  rw [List.drop_zero]
  conv => rhs; rw [← List.take_append_drop 256 b]
  congr 1
  exact List.take_of_length_le (by rw [List.length_drop]; omega)
/-- What stands at a place when all but the first bytes was cut, and came back. -/
theorem cut_back (b : Txt) {k j : Nat} (hj : j < 512) : ((sized (sized b k) 512).drop j).take 1 = [if j < k ∧ j < b.length then b.getD j 0 else 0] := by
  have hg : (sized (sized b k) 512)[j]? = some (if j < k ∧ j < b.length then b.getD j 0 else 0) := by
    rw [sized_get, if_pos hj]
    congr 1
    rw [List.getD, sized_get]
    by_cases h1 : j < k
    · rw [if_pos h1]
      by_cases h2 : j < b.length
      · rw [if_pos ⟨h1, h2⟩]; rfl
      · rw [if_neg (fun h => h2 h.2)]
        show b.getD j 0 = 0
        rw [List.getD, List.getElem?_eq_none (by omega)]
        rfl
    · rw [if_neg h1, if_neg (fun h => h1 h.1)]
      rfl
  have hlt : j < (sized (sized b k) 512).length := by rw [sized_length]; exact hj
  rw [List.drop_eq_getElem_cons hlt]
  rw [List.getElem?_eq_getElem hlt] at hg
  injection hg with hg
  rw [hg]
  rfl
end Go.Proofs.YtlkiaghpdjbfeaaDoor

namespace Go.Proofs.YtlkiaghpdjbfeaaDoor
open Go.RowKit
theorem step_append_str {P : Program} (w : World) {ops : Array Oper} {o : Oper} {a : Act} {K : Act → World → Prop} {Q : Exit → Act → World → Prop} {N : Prop} (hgd : o.guard = none) (s x : Operand) (T : TypeId)
    (ho : o.op = .call { callee := .builtin .append, args := #[s, x], argTypes := #[T, T] }) {E : TypeId} (U : St P T E) (v : Value) (xs : List ByteArray) (hs : a.eval s = v) (hown : OwnT E w v xs) (B : Nat) (A : Option Addr) (n c : Nat) (ys : List ByteArray)
    (hx : a.eval x = .slice A n c) (hn : n = ys.length) (hr : Strs w B A ys) (hb : xs.length + ys.length ≤ 1000000000)
    (h : ∀ A' n' c' w', OwnT E w' (.slice A' n' c') (xs ++ ys) → Hid (n' = (xs ++ ys).length) → n' ≤ c' → c' ≤ maxLen → w.grownBy w' v.ownBlock → ((Value.slice A' n' c').ownBlock = v.ownBlock ∨ (Value.slice A' n' c').ownBlock = some w.heap.size) → K (a.put o.dst (.slice A' n' c')) w') : if Region.wanted o (yielded ops a.tmps) = true then Oper.wp P o a w K Q else N := by
  have hw : Region.wanted o (yielded ops a.tmps) = true := by simp [Region.wanted, hgd]
  rw [if_pos hw]
  exact wp_append_str w s x T ho U v xs hs hown B A n c ys hx hn hr hb h
end Go.Proofs.YtlkiaghpdjbfeaaDoor

namespace Go.Proofs.YtlkiaghpdjbfeaaDoor
open Go.RowKit Go.ChangeShapes Go.WideShapes Go.ChangeAt

section
variable {H : Type} {enc : TypeId × Value → H} {P : Program} {W W' : World}

theorem open_bytes {base b0 : Nat} {r : Reach} {spare : Nat → Bool} {held : Bool} {t e : TypeId} {v : Value} {d : DataW H} {p : List MemPlace} (ht : P.underlying t = some (.slice e)) (he : P.underlying e = some (.int .u8)) (hc : P.cellsOf e = 1)
    (hv : Value.okWide P W r b0 t v) (h : DataW.Trod enc P W base spare held t v d p) : ∃ (A : Option Addr) (l : List UInt8) (c : Nat), v = .slice A l.length c ∧ l.length ≤ c ∧ c ≤ maxLen ∧ Rd W W.heap.size A l := by
  obtain ⟨A, len, cap, rfl⟩ := okWide_slice ht hv
  obtain ⟨fuel, hf⟩ := h
  rcases open_ints ht he hc hf with ⟨hcs, _⟩ | ⟨a, len', cap', zs, hcs, _, hl, hm, hz, _, hcell, hwz⟩
  · simp only [Value.cells, List.cons.injEq, Value.slice.injEq, and_true] at hcs
    obtain ⟨rfl, rfl, rfl⟩ := hcs
    exact ⟨none, [], 0, rfl, Nat.le_refl _, Nat.zero_le _, Rd.nil⟩
  · simp only [Value.cells, List.cons.injEq, Value.slice.injEq, and_true] at hcs
    obtain ⟨rfl, rfl, rfl⟩ := hcs
    have hle : len ≤ zs.length := by rw [hz]; split <;> omega
    have hb : ∀ n ∈ zs, 0 ≤ n ∧ n < 256 := fun n hn => by
      have h := hwz n hn
      have h1 : IntKind.u8.min = 0 := rfl
      have h2 : IntKind.u8.max = 255 := rfl
      simp only [Lit.wf, Bool.and_eq_true, decide_eq_true_eq, h1, h2] at h
      omega
    have hlen : ((zs.take len).map fun n => UInt8.ofNat n.toNat).length = len := by simp; omega
    refine ⟨some a, (zs.take len).map fun n => UInt8.ofNat n.toNat, cap, by rw [hlen], by omega, hm, fun j b hj => ?_⟩
    have hjl : j < len := by
      rcases Nat.lt_or_ge j len with h' | h'
      · exact h'
      · rw [List.getElem?_eq_none (by omega)] at hj; cases hj
    have hc := hcell j (by omega)
    have hlt := World.block_lt_of_cell? W _ hc
    rw [block_add] at hlt
    refine ⟨a, rfl, hlt, ?_⟩
    rw [hc]
    have hjz : j < zs.length := by omega
    simp only [List.getElem?_map, List.getElem?_take, hjl, if_true, List.getElem?_eq_getElem hjz, Option.map_some, Option.some.injEq] at hj
    have hbj := hb _ (List.getElem_mem hjz)
    rw [← hj]
    simp only [List.getD, List.getElem?_eq_getElem hjz, Option.getD_some]
    have : (UInt8.ofNat zs[j].toNat).toNat = zs[j].toNat := by
      rw [UInt8.toNat_ofNat']
      exact Nat.mod_eq_of_lt (by omega)
    rw [this]
    congr 2
    omega

/-- A slice that came in, of whatever elements: each element's cells, and that they read as the element's type. -/
theorem open_cells {base b0 : Nat} {r : Reach} {spare : Nat → Bool} {held : Bool} {t e : TypeId} {v : Value} {d : DataW H} {p : List MemPlace} (ht : P.underlying t = some (.slice e)) (hpos : 0 < P.cellsOf e)
    (hv : Value.okWide P W r b0 t v) (h : DataW.Trod enc P W base spare held t v d p) : ∃ (A : Option Addr) (n c : Nat), v = .slice A n c ∧ n ≤ c ∧ c ≤ maxLen ∧
      ∀ i, i < n → ∃ (b o : Nat) (cs : List Value) (fuel : Nat) (y : DataW H × List MemPlace), A = some ⟨b, o, none⟩ ∧ b < W.heap.size ∧ cs.length = P.cellsOf e ∧
        (∀ j u, cs[j]? = some u → W.cell? ⟨b, o + i * P.cellsOf e + j, none⟩ = some u) ∧ DataW.trod enc P W base spare held fuel e cs = some y := by
  obtain ⟨A, len, cap, rfl⟩ := okWide_slice ht hv
  obtain ⟨fuel, hf⟩ := h
  rcases Deep.open_slice ht hf with ⟨hcs, _⟩ | ⟨a, len', cap', m, n, D, Pl, hcs, _, hl, hm, hmm, _, hi⟩
  · simp only [Value.cells, List.cons.injEq, Value.slice.injEq, and_true] at hcs
    obtain ⟨rfl, rfl, rfl⟩ := hcs
    exact ⟨none, 0, 0, rfl, Nat.le_refl _, Nat.zero_le _, fun i hi => absurd hi (by omega)⟩
  · simp only [Value.cells, List.cons.injEq, Value.slice.injEq, and_true] at hcs
    obtain ⟨rfl, rfl, rfl⟩ := hcs
    refine ⟨some a, len, cap, rfl, hl, hm, fun i hil => ?_⟩
    have hlm : len ≤ m := by rw [hmm]; split <;> omega
    obtain ⟨cs, hc, hy⟩ := hi i (by omega)
    obtain ⟨_, hcl, hat⟩ := World.cells?_some hc
    have h0 := hat 0 hpos
    rw [List.getElem?_eq_getElem (by omega), Deep.add_add] at h0
    obtain ⟨b, o, spot⟩ := a
    have hspot : spot = none := by
      obtain ⟨cs0, hc0, _⟩ := hi 0 (by omega)
      obtain ⟨_, hcl0, hat0⟩ := World.cells?_some hc0
      have h00 := hat0 0 hpos
      rw [List.getElem?_eq_getElem (by omega)] at h00
      simpa [Addr.add] using World.cell?_spot h00
    subst hspot
    have hadd : ∀ k, (⟨b, o, none⟩ : Addr).add k = ⟨b, o + k, none⟩ := fun k => by unfold Addr.add; split <;> simp_all
    have hlt := World.block_lt_of_cell? W _ h0
    rw [hadd] at hlt
    refine ⟨b, o, cs, n, _, rfl, hlt, hcl, fun j u hu => ?_, hy⟩
    have hj : j < P.cellsOf e := by
      rcases Nat.lt_or_ge j cs.length with h' | h'
      · omega
      · rw [List.getElem?_eq_none h'] at hu; cases hu
    have h1 := hat j hj
    rw [Deep.add_add, hadd, hu] at h1
    rw [Nat.add_assoc]
    exact h1
theorem byte_of_wf {n : Int} (h : (Lit.int .u8 n).wf = true) : ∃ b : UInt8, n = (b.toNat : Int) := by
  have h1 : IntKind.u8.min = 0 := rfl
  have h2 : IntKind.u8.max = 255 := rfl
  simp only [Lit.wf, Bool.and_eq_true, decide_eq_true_eq, h1, h2] at h
  refine ⟨UInt8.ofNat n.toNat, ?_⟩
  rw [UInt8.toNat_ofNat']
  omega

/-- The arguments read as they did. -/
theorem trodAll_stays (hl : laidOutB P = true) (hb : Below W.heap.size W W') : ∀ (ts : List TypeId) (vs : List Value) (ds : List (DataW H)) (ps : List MemPlace), (∀ t ∈ ts, P.readableRec t = true ∧ t < P.types.size) →
    DataW.TrodAll enc P W 0 (fun _ => true) true ts vs ds ps → (∀ x ∈ ps, x.block < W.heap.size) → DataW.TrodAll enc P W' 0 (fun b => decide (b < W.heap.size)) true ts vs ds ps
  | [], [], [], ps, _, h, _ => h
  | t :: ts, v :: vs, d :: ds, ps, ht, h, hlt => by
    obtain ⟨p, q, h0, h1, rfl⟩ := h
    exact ⟨p, q, Below.trod hl (ht t (by simp)).1 (ht t (by simp)).2 h0 hb (fun x hx => hlt x (by simp [hx])), trodAll_stays hl hb ts vs ds q (fun t' h' => ht t' (by simp [h'])) h1 (fun x hx => hlt x (by simp [hx])), rfl⟩
  | [], [], _ :: _, _, _, h, _ => h.elim
  | [], _ :: _, _, _, _, h, _ => h.elim
  | _ :: _, [], _, _, _, h, _ => h.elim
  | _ :: _, _ :: _, [], _, _, h, _ => h.elim

/-- THE END OF EVERY LAW: it answered true, and of what was there nothing has turned. -/
theorem law_post {f : Func} {s : ChangeSpec} {args : Array Value} {ds gs : List (DataW H)} {before : List MemPlace} {tb : TypeId} (hl : laidOutB P = true) (hts : ∀ t ∈ f.params.toList, P.readableRec t = true ∧ t < P.types.size)
    (hr : f.resultTypes = #[tb]) (htb : P.underlying tb = some .bool) (hvars : s.vars = []) (hfn : s.fn H (ds ++ gs) = { results := [.lit (.bool true)], args := ds })
    (hW : DataW.Whole enc P f.params.toList s.vars false W args.toList ds gs before) (hb : Below W.heap.size W W') : s.post enc P f false true false false W args (.bool true) W' := by
  have hlt := fun x hx => hW.lt x hx
  have hW' := hW
  obtain ⟨p, q, hA, hV, rfl, _, _⟩ := hW
  rw [hvars] at hV
  obtain ⟨rfl, rfl⟩ := trodVars_none hV
  refine ⟨ds, [], _, [], p, [], hW', ?_, ?_, ?_, hb.frame _, fun h => by cases h⟩
  · rw [hfn, hr]
    exact trodAll_cons_mk (shut_bool htb _) trodAll_mk0
  · rw [hfn]
    exact trodAll_stays hl hb _ _ _ _ hts hA (fun x hx => hlt x (by simp [hx]))
  · rw [hfn, hvars]
    rfl
end
end Go.Proofs.YtlkiaghpdjbfeaaDoor
