/-
  Every call keeps what holds of a tree; a renaming can be taken back; entries and links are counted. Over no program.
-/
import Derived.Test.YtlpjbgplimlcaaaGreatDoorTreeGood
namespace Go.Proofs.YtlpjbgplimlcaaaGreatDoor

theorem last_eq (x : Txt) (r : List Txt) : ∃ ns y, x :: r = ns ++ [y] ∧ (x :: r).dropLast = ns ∧ (x :: r).getLast (by simp) = y :=
  ⟨(x :: r).dropLast, (x :: r).getLast (by simp), (List.dropLast_concat_getLast (by simp)).symm, rfl, rfl⟩
theorem snoc_parts {ns : List Txt} {y : Txt} : ∃ a r, ns ++ [y] = a :: r ∧ (a :: r).dropLast = ns ∧ ∀ h, (a :: r).getLast h = y := by
  cases h : ns ++ [y] with
  | nil => simp at h
  | cons a r =>
    refine ⟨a, r, rfl, ?_, fun h' => ?_⟩
    · rw [← h]; simp
    · have : (ns ++ [y]).getLast (by simp) = y := by simp
      simp only [h] at this
      exact this

theorem place_ok {t : Tr} {s : Txt} {d : Nat} {x : Txt} (h : place t s = .ok (d, x)) : ∃ ns, pathM s = some (ns ++ [x]) ∧ walk t 0 ns = .ok d ∧ (t d).kind = 1 ∧ look (t d).entries x = none := by
  unfold place at h
  split at h
  · cases h
  · cases h
  · next y r hp =>
    split at h
    · cases h
    · next d' hd' =>
      split at h
      · cases h
      · next hk =>
        split at h
        · cases h
        · next hl =>
          obtain ⟨ns, z, h1, h2, h3⟩ := last_eq y r
          rw [h3] at h hl
          injection h with h
          injection h with h4 h5
          subst h4 h5
          exact ⟨ns, by rw [hp, h1], by rw [← h2]; exact hd', by omega, hl⟩
theorem place_of {t : Tr} {s : Txt} {d : Nat} {x : Txt} {ns : List Txt} (hp : pathM s = some (ns ++ [x])) (hw : walk t 0 ns = .ok d) (hk : (t d).kind = 1) (hl : look (t d).entries x = none) : place t s = .ok (d, x) := by
  obtain ⟨a, r, h1, h2, h3⟩ := snoc_parts (ns := ns) (y := x)
  rw [h1] at hp
  unfold place
  rw [hp]
  simp only [h2, hw, h3]
  rw [if_neg (by omega), hl]
theorem findUp_ok {t : Tr} {s : Txt} {a p : Nat} {x : Txt} (h : findUp t s = .ok (a, p, x)) : ∃ ns, pathM s = some (ns ++ [x]) ∧ walk t 0 ns = .ok p ∧ (t p).kind = 1 ∧ look (t p).entries x = some a := by
  unfold findUp at h
  split at h
  · cases h
  · cases h
  · next y r hp =>
    split at h
    · cases h
    · next a' ha' =>
      split at h
      · cases h
      · next p' hp' =>
        obtain ⟨ns, z, h1, h2, h3⟩ := last_eq y r
        rw [h3] at h
        injection h with h
        injection h with h4 h5
        injection h5 with h5 h6
        subst h4 h5 h6
        rw [h1] at ha'
        obtain ⟨m, hm, hmk, hml⟩ := walk_snoc ha'
        rw [h2] at hp'
        rw [hm] at hp'
        injection hp' with hp'
        subst hp'
        exact ⟨ns, by rw [hp, h1], hm, hmk, hml⟩
theorem findUp_of {t : Tr} {s : Txt} {a p : Nat} {x : Txt} {ns : List Txt} (hp : pathM s = some (ns ++ [x])) (hw : walk t 0 ns = .ok p) (hk : (t p).kind = 1) (hl : look (t p).entries x = some a) : findUp t s = .ok (a, p, x) := by
  have hwa := walk_snoc_ok hw hk hl
  obtain ⟨b, r, h1, h2, h3⟩ := snoc_parts (ns := ns) (y := x)
  rw [h1] at hp hwa
  unfold findUp
  rw [hp]
  simp only [hwa, h2, hw, h3]
theorem pathM_last {s : Txt} {ns : List Txt} {x : Txt} (h : pathM s = some (ns ++ [x])) : IsName x := (pathM_some h).2.2 x (by simp)
theorem least_ok {t : Tr} {n : Nat} (h : least t = some n) : (t n).kind = 0 ∧ n < 64 := by
  unfold least at h
  have h1 := List.find?_some h
  have h2 := List.mem_of_find?_eq_some h
  exact ⟨by simpa using h1, List.mem_range.1 h2⟩
theorem sized_length (b : Txt) (n : Nat) : (sized b n).length = n := by
  unfold sized
  rw [List.length_append, List.length_take, List.length_replicate]
  omega
theorem over_length {b : Txt} {off : Nat} {d : Txt} (h : off + d.length ≤ b.length) : (over b off d).length = b.length := by
  unfold over
  rw [List.length_append, List.length_append, List.length_take, List.length_drop]
  omega
theorem written_length {b : Txt} {off : Nat} {d : Txt} (hb : b.length ≤ 512) (h : off + d.length ≤ 512) : (written b off d).length ≤ 512 := by
  unfold written
  split
  · exact hb
  · rw [over_length (by rw [sized_length]; omega), sized_length]
    omega

/-- To name a directory from beneath itself is to stand inside its path. -/
theorem not_beneath {t : Tr} (g : Good t) {s o : Txt} {a p d : Nat} {x y : Txt} {ns ms : List Txt} (hs : pathM s = some (ns ++ [x])) (hn : walk t 0 ns = .ok p) (hk : (t p).kind = 1) (hl : look (t p).entries x = some a)
    (ho : pathM o = some (ms ++ [y])) (hm : walk t 0 ms = .ok d) (hd : (t d).kind = 1) (hin : insideM o s = false) : ∀ rs, walk t a rs ≠ .ok d := fun rs hrs => by
  have hwa := walk_snoc_ok hn hk hl
  have h2 : walk t 0 ((ns ++ [x]) ++ rs) = .ok d := by rw [walk_append, hwa]; exact hrs
  have h3 := g.one_way _ (Nat.le_refl _) hm h2 hd
  rw [insideM_some ho hs] at hin
  have hin := of_decide_eq_false hin
  apply hin
  rw [h3]
  refine ⟨by simp, ?_⟩
  rw [List.append_assoc (ns ++ [x]), List.take_left]

theorem doMake_good {t : Tr} (g : Good t) {k : Nat} (hk : k = 1 ∨ k = 2) (s : Txt) : Good (doMake t k s).2 := by
  unfold doMake
  split
  · exact g
  · next d x hp =>
    split
    · exact g
    · next n hn =>
      obtain ⟨ns, h1, _, h3, h4⟩ := place_ok hp
      obtain ⟨h5, h6⟩ := least_ok hn
      exact g.make hk h3 h4 (pathM_last h1) h5 h6
theorem doRmdir_good {t : Tr} (g : Good t) (s : Txt) : Good (doRmdir t s).2 := by
  unfold doRmdir
  split
  · exact g
  · next a p x hf =>
    split
    · exact g
    · split
      · exact g
      · next h =>
        obtain ⟨ns, _, _, _, hl⟩ := findUp_ok hf
        exact g.unlink hl (Classical.not_not.1 h)
theorem doUnlink_good {t : Tr} (g : Good t) (s : Txt) : Good (doUnlink t s).2 := by
  unfold doUnlink
  split
  · exact g
  · next a p x hf =>
    split
    · exact g
    · next h =>
      obtain ⟨ns, _, _, _, hl⟩ := findUp_ok hf
      have h1 := g.kinds a
      have h2 := (g.entry p _ (look_mem hl)).2.2
      exact g.unlink hl (g.file a (by have h3 : (t a).kind ≠ 0 := h2; omega)).1
theorem doLink_good {t : Tr} (g : Good t) (s o : Txt) : Good (doLink t s o).2 := by
  unfold doLink
  split
  · exact g
  · next a hf =>
    split
    · exact g
    · next h =>
      split
      · exact g
      · next d x hp =>
        obtain ⟨ms, h1, _, h3, h4⟩ := place_ok hp
        have h5 : (t a).kind ≠ 0 := by
          unfold find at hf
          split at hf
          · cases hf
          · exact g.walked (by rw [g.root.1]; omega) hf
        have h6 := g.kinds a
        exact g.link (by omega) h3 h4 (pathM_last h1)
theorem doRename_good {t : Tr} (g : Good t) (s o : Txt) : Good (doRename t s o).2 := by
  unfold doRename
  split
  · exact g
  · next a p x hf =>
    split
    · exact g
    · split
      · exact g
      · next hin =>
        split
        · exact g
        · next d y hp =>
          obtain ⟨ns, q1, q2, q3, q4⟩ := findUp_ok hf
          obtain ⟨ms, h1, h2, h3, h4⟩ := place_ok hp
          exact g.move q4 h3 h4 (pathM_last h1) fun _ => not_beneath g q1 q2 q3 q4 h1 h2 h3 (by simpa using hin)
theorem findFile_ok {t : Tr} (g : Good t) {s : Txt} {a : Nat} (h : findFile t s = .ok a) : (t a).kind = 2 := by
  unfold findFile at h
  split at h
  · cases h
  · next a' hf =>
    split at h
    · cases h
    · next hk =>
      injection h with h
      subst h
      have h5 : (t a').kind ≠ 0 := by
        unfold find at hf
        split at hf
        · cases hf
        · exact g.walked (by rw [g.root.1]; omega) hf
      have h6 := g.kinds a'
      omega
theorem doWrite_good {t : Tr} (g : Good t) (s : Txt) (off : Int) (d : Txt) : Good (doWrite t s off d).2 := by
  unfold doWrite
  split
  · exact g
  · next a hf =>
    have hk := findFile_ok g hf
    split
    · exact g
    · split
      · exact g
      · next h => exact g.filled hk (written_length (g.file a hk).2 (by omega))
theorem doCut_good {t : Tr} (g : Good t) (s : Txt) (n : Int) : Good (doCut t s n).2 := by
  unfold doCut
  split
  · exact g
  · next a hf =>
    have hk := findFile_ok g hf
    split
    · exact g
    · split
      · exact g
      · next h => exact g.filled hk (by rw [sized_length]; omega)
/-- Every call keeps what holds of a tree. -/
theorem doT_good {t : Tr} (g : Good t) (c : TCall) : Good (doT t c).2 :=
  doT_cases t c (fun r => Good r.2) (fun _ => doMake_good g (Or.inl rfl) _) (fun _ => doRmdir_good g _) (fun _ => doMake_good g (Or.inr rfl) _) (fun _ => doUnlink_good g _) (fun _ => doLink_good g _ _) (fun _ => doRename_good g _ _) (fun _ => doWrite_good g _ _ _)
    (fun _ => by rw [doRead_same]; exact g) (fun _ => doCut_good g _ _) (fun _ => by rw [doStat_same]; exact g) (fun _ => by rw [doList_same]; exact g) (fun _ => g) (fun _ => g)
theorem doAll_good (cs : List TCall) : ∀ {t : Tr}, Good t → Good (doAll t cs) := by
  induction cs with
  | nil => exact fun g => g
  | cons c cs ih => exact fun g => ih (doT_good g c)

/-! ### A renaming, and back -/
/-- A way that doesn't take an entry is there when the entry is gone, and another one there. -/
theorem walk_moved {t : Tr} {a p d : Nat} {x y : Txt} (hy : look (t d).entries y = none) (hxy : ¬ (p = d ∧ x = y)) : ∀ (us : List Txt) (n k : Nat), walk t n us = .ok k → (∀ u1 u2, us = u1 ++ x :: u2 → walk t n u1 ≠ .ok p) → walk (moved t a p x d y) n us = .ok k
  | [], _, _, h, _ => h
  | z :: r, n, k, h, hno => by
    rw [walk] at h ⊢
    rw [moved_kind]
    split at h
    · cases h
    · next hk =>
      rw [if_neg hk]
      split at h
      · cases h
      · next m hm =>
        have hne : ¬ (n = p ∧ z = x) := fun e => hno [] r (by rw [e.2]; rfl) (by rw [walk, e.1])
        have hl : look (moved t a p x d y n).entries z = some m := by
          rw [moved_entries]
          split
          · next h1 =>
            rw [look_put]
            have hzy : z ≠ y := fun e => by rw [e, h1, hy] at hm; cases hm
            rw [if_neg hzy]
            split
            · next h2 =>
              rw [look_drop, if_neg (fun e => hne ⟨h1.trans h2, e⟩), ← h2, ← h1]
              exact hm
            · rw [← h1]; exact hm
          · split
            · next h2 =>
              rw [look_drop, if_neg (fun e => hne ⟨h2, e⟩), ← h2]
              exact hm
            · exact hm
        rw [hl]
        refine walk_moved hy hxy r m k h fun u1 u2 e hw => hno (z :: u1) u2 (by rw [e]; rfl) ?_
        rw [walk, if_neg hk, hm]
        exact hw
theorem walk_file {t : Tr} {a k : Nat} {us : List Txt} (ha : (t a).kind ≠ 1) (h : walk t a us = .ok k) : us = [] ∧ k = a := by
  cases us with
  | nil =>
    rw [walk] at h
    injection h with h
    exact ⟨rfl, h.symm⟩
  | cons z r => rw [walk, if_pos ha] at h; cases h

theorem renamed {t : Tr} (g : Good t) {s o : Txt} (hne : o ≠ s) (h : (doRename t s o).1.err = 0) :
    (doStat (doRename t s o).2 o).1 = (doStat t s).1 ∧ (doStat t s).1.err = 0 ∧ (doStat (doRename t s o).2 s).1.err ≠ 0 ∧ (∀ m, ((doRename t s o).2 m).kind = (t m).kind) ∧ doRename (doRename t s o).2 o s = (okA, t) := by
  unfold doRename at h
  split at h
  · next e hf =>
    exfalso
    unfold findUp at hf
    have h : e = 0 := h
    subst h
    split at hf
    · cases hf
    · cases hf
    · have wne : ∀ us n, walk t n us ≠ .error 0 := fun us => by
        induction us with
        | nil => intro n h; rw [walk] at h; cases h
        | cons z r ih =>
          intro n h
          rw [walk] at h
          split at h
          · cases h
          · split at h
            · cases h
            · exact ih _ h
      split at hf
      · next hw => injection hf with hf; subst hf; exact wne _ _ hw
      · split at hf
        · next hw => injection hf with hf; subst hf; exact wne _ _ hw
        · cases hf
  · next a p x hf =>
    rw [if_neg hne] at h
    split at h
    · cases h
    · next hin =>
      split at h
      · next e hp =>
        exfalso
        have h : e = 0 := h
        subst h
        have wne : ∀ us n, walk t n us ≠ .error 0 := fun us => by
          induction us with
          | nil => intro n h; rw [walk] at h; cases h
          | cons z r ih =>
            intro n h
            rw [walk] at h
            split at h
            · cases h
            · split at h
              · cases h
              · exact ih _ h
        unfold place at hp
        split at hp
        · cases hp
        · cases hp
        · split at hp
          · next hw => injection hp with hp; subst hp; exact wne _ _ hw
          · split at hp
            · cases hp
            · split at hp <;> cases hp
      · next d y hp =>
        have hin : insideM o s = false := by simpa using hin
        have hr : doRename t s o = (okA, moved t a p x d y) := by
          unfold doRename
          rw [hf]
          simp only [hp]
          rw [if_neg hne, if_neg (by rw [hin]; simp)]
        rw [hr]
        simp only
        obtain ⟨ns, q1, q2, q3, q4⟩ := findUp_ok hf
        obtain ⟨ms, h1, h2, h3, h4⟩ := place_ok hp
        have hnb := not_beneath g q1 q2 q3 q4 h1 h2 h3 hin
        have hxy : ¬ (p = d ∧ x = y) := fun ⟨e1, e2⟩ => by
          rw [e1, e2, h4] at q4
          cases q4
        have had : a ≠ d := fun e => hnb [] (by rw [walk, e])
        have hap : a ≠ p := fun e => by
          obtain ⟨rk, hrk⟩ := g.rank
          have := hrk p _ (look_mem q4) (by show (t a).kind = 1; rw [e]; exact q3)
          have h' : rk p < rk a := this
          rw [e] at h'
          omega
        -- the way to the directory above is there still
        have wp : walk (moved t a p x d y) 0 ns = .ok p := walk_moved h4 hxy ns 0 p q2 fun u1 u2 e hw => by
          have := g.one_way _ (Nat.le_refl _) hw q2 q3
          rw [this] at e
          have := congrArg List.length e
          simp at this
        have wd : walk (moved t a p x d y) 0 ms = .ok d := walk_moved h4 hxy ms 0 d h2 fun u1 u2 e hw => by
          have hu := g.one_way _ (Nat.le_refl _) hw q2 q3
          rw [e, hu, walk_append, q2] at h2
          have h2 : walk t p (x :: u2) = .ok d := h2
          rw [walk, if_neg (by omega), q4] at h2
          exact hnb u2 h2
        have kd : (moved t a p x d y d).kind = 1 := by rw [moved_kind]; exact h3
        have kp : (moved t a p x d y p).kind = 1 := by rw [moved_kind]; exact q3
        have ld : look (moved t a p x d y d).entries y = some a := by
          rw [moved_entries, if_pos rfl, look_put, if_pos rfl]
        have lp : look (moved t a p x d y p).entries x = none := by
          rw [moved_entries]
          split
          · next e =>
            rw [look_put, if_neg (fun e' => hxy ⟨e, e'⟩), if_pos e.symm, look_drop, if_pos rfl]
          · rw [if_pos rfl, look_drop, if_pos rfl]
        have fo : find (moved t a p x d y) o = .ok a := by
          unfold find
          rw [h1]
          exact walk_snoc_ok wd kd ld
        have fs : find t s = .ok a := by
          unfold find
          rw [q1]
          exact walk_snoc_ok q2 q3 q4
        have ea : (moved t a p x d y a).entries = (t a).entries := by
          rw [moved_entries, if_neg had, if_neg hap]
        refine ⟨?_, ?_, ?_, fun m => moved_kind .., ?_⟩
        · unfold doStat
          rw [fo, fs]
          simp only [moved_kind, moved_links, moved_data, ea]
        · unfold doStat
          rw [fs]
        · have fg : find (moved t a p x d y) s = .error 21 := by
            unfold find
            rw [q1]
            show walk _ 0 (ns ++ [x]) = _
            rw [walk_append, wp]
            show walk _ p [x] = _
            rw [walk, if_neg (by omega), lp]
          unfold doStat
          rw [fg]
          show (21 : Nat) ≠ 0
          omega
        · have hin2 : insideM s o = false := by
            rw [insideM_some q1 h1]
            refine decide_eq_false fun ⟨hlt, htk⟩ => ?_
            have e : (ns ++ [x]) = (ms ++ [y]) ++ (ns ++ [x]).drop (ms ++ [y]).length := by
              conv => lhs; rw [← List.take_append_drop (ms ++ [y]).length (ns ++ [x])]
              rw [htk]
            have hw := walk_snoc_ok q2 q3 q4
            rw [e, walk_append] at hw
            split at hw
            · cases hw
            · next m hm =>
              obtain ⟨m', hm', _, hl'⟩ := walk_snoc hm
              rw [h2] at hm'
              injection hm' with hm'
              rw [← hm', h4] at hl'
              cases hl'
          have f1 := findUp_of h1 wd kd ld
          have f2 := place_of q1 wp kp lp
          unfold doRename
          rw [f1]
          simp only [f2]
          rw [if_neg (fun e => hne e.symm), if_neg (by rw [hin2]; simp)]
          congr 1
          funext m
          have hE : (moved (moved t a p x d y) a d y p x m).entries = (t m).entries := by
            rw [moved_entries]
            by_cases hpd : p = d
            · subst hpd
              rw [if_pos rfl]
              by_cases hmp : m = p
              · subst hmp
                rw [if_pos rfl, moved_entries, if_pos rfl, if_pos rfl, drop_put (drop_rising (g.rising m) x) (by rw [look_drop]; split; rfl; exact h4), put_drop (g.rising m) q4]
              · rw [if_neg hmp, if_neg hmp, moved_entries, if_neg hmp, if_neg hmp]
            · rw [if_neg hpd]
              by_cases hmp : m = p
              · subst hmp
                rw [if_pos rfl, moved_entries, if_neg hpd, if_pos rfl, put_drop (g.rising m) q4]
              · rw [if_neg hmp]
                by_cases hmd : m = d
                · subst hmd
                  rw [if_pos rfl, moved_entries, if_pos rfl, if_neg (fun e => hpd e.symm), drop_put (g.rising m) h4]
                · rw [if_neg hmd, moved_entries, if_neg hmd, if_neg hmp]
          have hK : (moved (moved t a p x d y) a d y p x m).kind = (t m).kind := by rw [moved_kind, moved_kind]
          have hL : (moved (moved t a p x d y) a d y p x m).links = (t m).links := by rw [moved_links, moved_links]
          have hD : (moved (moved t a p x d y) a d y p x m).data = (t m).data := by rw [moved_data, moved_data]
          cases hu : moved (moved t a p x d y) a d y p x m with
          | mk k l dd ee =>
            cases ht : t m with
            | mk k2 l2 dd2 ee2 =>
              rw [hu, ht] at hE hK hL hD
              simp only at hE hK hL hD
              subst hE hK hL hD
              rfl

/-! ### As many links as entries, and one -/
theorem sum_add (f g : Nat → Nat) : ∀ N, ((List.range N).map fun m => f m + g m).sum = ((List.range N).map f).sum + ((List.range N).map g).sum := by
  intro N
  induction N with
  | zero => rfl
  | succ N ih =>
    simp only [List.range_succ, List.map_append, List.map_cons, List.map_nil, List.sum_append, List.sum_cons, List.sum_nil, Nat.add_zero] at ih ⊢
    omega
theorem sum_swap (f : Nat → Nat → Nat) (N : Nat) : ∀ M, ((List.range M).map fun m => ((List.range N).map fun n => f m n).sum).sum = ((List.range N).map fun n => ((List.range M).map fun m => f m n).sum).sum := by
  intro M
  induction M with
  | zero =>
    simp only [List.range_zero, List.map_nil, List.sum_nil]
    induction N with
    | zero => rfl
    | succ N ih => simp only [List.range_succ, List.map_append, List.map_cons, List.map_nil, List.sum_append, List.sum_cons, List.sum_nil, Nat.add_zero]; exact ih
  | succ M ih =>
    have e : ((List.range N).map fun n => ((List.range (M + 1)).map fun m => f m n).sum).sum = ((List.range N).map fun n => ((List.range M).map fun m => f m n).sum + f M n).sum := by
      congr 1
      refine List.map_congr_left fun n _ => ?_
      simp only [List.range_succ, List.map_append, List.map_cons, List.map_nil, List.sum_append, List.sum_cons, List.sum_nil, Nat.add_zero]
    rw [e, sum_add, ← ih]
    simp only [List.range_succ, List.map_append, List.map_cons, List.map_nil, List.sum_append, List.sum_cons, List.sum_nil, Nat.add_zero]
theorem refs_total (es : Row) (N : Nat) (h : ∀ e ∈ es, e.2 < N) : ((List.range N).map fun n => refs es n).sum = es.length := by
  induction es with
  | nil =>
    have : ∀ M, ((List.range M).map fun n => refs [] n).sum = 0 := fun M => by
      induction M with
      | zero => rfl
      | succ M ih => simp only [List.range_succ, List.map_append, List.map_cons, List.map_nil, List.sum_append, List.sum_cons, List.sum_nil, Nat.add_zero]; rw [ih]; rfl
    exact this N
  | cons e r ih =>
    have e1 : (fun n => refs (e :: r) n) = fun n => refs r n + if e.2 = n then 1 else 0 := by
      funext n
      unfold refs
      rw [List.countP_cons]
      simp
    rw [e1, sum_add, ih fun x hx => h x (by simp [hx]), List.length_cons]
    have one : ∀ M, e.2 < M → ((List.range M).map fun n => if e.2 = n then 1 else 0).sum = 1 := by
      have zero : ∀ M, M ≤ e.2 → ((List.range M).map fun n => if e.2 = n then 1 else 0).sum = 0 := fun M => by
        induction M with
        | zero => intro _; rfl
        | succ M ih =>
          intro hM
          simp only [List.range_succ, List.map_append, List.map_cons, List.map_nil, List.sum_append, List.sum_cons, List.sum_nil, Nat.add_zero]
          rw [ih (by omega), if_neg (by omega)]
      intro M
      induction M with
      | zero => intro h; omega
      | succ M ih =>
        intro hM
        simp only [List.range_succ, List.map_append, List.map_cons, List.map_nil, List.sum_append, List.sum_cons, List.sum_nil, Nat.add_zero]
        by_cases he : e.2 = M
        · rw [if_pos he, zero M (by omega)]
        · rw [if_neg he, ih (by omega)]
    rw [one N (h e (by simp))]
theorem Good.counted {t : Tr} (g : Good t) : ((List.range 64).map fun n => (t n).links).sum = ((List.range 64).map fun n => (t n).entries.length).sum + 1 := by
  have e1 : ∀ m, m < 64 → (t m).entries.length = ((List.range 64).map fun n => refs (t m).entries n).sum := fun m _ =>
    (refs_total _ 64 fun e he => g.lt (g.entry m e he).2.2).symm
  have e2 : ((List.range 64).map fun m => (t m).entries.length).sum = ((List.range 64).map fun n => allRefs t n).sum := by
    have : ((List.range 64).map fun m => (t m).entries.length) = (List.range 64).map fun m => ((List.range 64).map fun n => refs (t m).entries n).sum :=
      List.map_congr_left fun m hm => e1 m (List.mem_range.1 hm)
    rw [this, sum_swap]
    rfl
  have h0 : allRefs t 0 = 0 := g.zero_refs (Or.inr rfl)
  have := (sum_change (fun n => (t n).links) (fun n => allRefs t n) 0 (fun m hm => by
    by_cases hk : (t m).kind = 0
    · rw [g.void m hk]
      show (0 : Nat) = allRefs t m
      rw [g.zero_refs (Or.inl hk)]
    · exact (g.count m hm hk).1.symm) 64).2 (by omega)
  simp only [g.root.2, h0] at this
  omega
end Go.Proofs.YtlpjbgplimlcaaaGreatDoor
