/-
  The program's tree in memory: a map of nodes by their numbers, each directory's map of entries, each file's bytes.
-/
import Derived.Test.YtlpjbgplimlcaaaGreatDoorChecked
import Derived.Test.YtlpjbgplimlcaaaGreatDoorMapV
import Derived.Test.YtlpjbgplimlcaaaGreatDoorTreeDo
namespace Go.Proofs.YtlpjbgplimlcaaaGreatDoor
open Go.RowKit Go.Maps

/-- Where a tree's parts lie. -/
structure Lay where
  tb : Nat
  mb : Nat
  nb : Nat → Nat
  eb : Nat → Nat
  dv : Nat → Value
/-- What the map of nodes gives. -/
def nodeF (L : Lay) (t : Tr) : Lit → Option Value
  | .int _ z => if 0 ≤ z ∧ (t z.toNat).kind ≠ 0 then some (.pointer (some ⟨L.nb z.toNat, 0, none⟩)) else none
  | _ => none
/-- A number as a value. -/
def numV (k : Nat) : Value := .int .i64 (k : Int)
/-- What a directory's map of entries gives. -/
def dirF (es : Row) : Lit → Option Value
  | .string x => (look es x).map numV
  | _ => none
def entV (L : Lay) (t : Tr) (n : Nat) : Value := if (t n).kind = 1 then .map (some (L.eb n)) else .map none

structure TreeAt (w : World) (L : Lay) (N : Nat) (t : Tr) : Prop where
  tree : w.heap[L.tb]? = some (.cells #[.map (some L.mb)] 52)
  map : MapV Tryz.prog 3 w L.mb N (nodeF L t)
  node : ∀ n, (t n).kind ≠ 0 → w.heap[L.nb n]? = some (.cells #[.int .i64 ((t n).kind : Int), .int .i64 ((t n).links : Int), entV L t n, L.dv n] 70)
  dir : ∀ n, (t n).kind = 1 → MapV Tryz.prog 9 w (L.eb n) N (dirF (t n).entries)
  data : ∀ n, (t n).kind ≠ 0 → Own 5 w (L.dv n) (t n).data
  nbi : ∀ n m, (t n).kind ≠ 0 → (t m).kind ≠ 0 → L.nb n = L.nb m → n = m
  ebi : ∀ n m, (t n).kind = 1 → (t m).kind = 1 → L.eb n = L.eb m → n = m
  ebm : ∀ n, (t n).kind = 1 → L.eb n ≠ L.mb
  dvi : ∀ n m, (t n).kind ≠ 0 → (t m).kind ≠ 0 → ∀ k, (L.dv n).ownBlock = some k → (L.dv m).ownBlock = some k → n = m
/-- The blocks that a tree lies in. -/
def Foot (L : Lay) (t : Tr) (k : Nat) : Prop := k = L.tb ∨ k = L.mb ∨ ∃ n, (t n).kind ≠ 0 ∧ (k = L.nb n ∨ ((t n).kind = 1 ∧ k = L.eb n) ∨ (L.dv n).ownBlock = some k)

theorem own_heap {E : TypeId} {w : World} {v : Value} {l : List UInt8} {k : Nat} (h : Own E w v l) (hk : v.ownBlock = some k) : ∃ cs, w.heap[k]? = some (.cells cs E (0, 0)) := by
  rcases h.2 with ⟨rfl, _⟩ | ⟨g, cap, cur, rfl, _, hh, _⟩
  · simp [Value.ownBlock] at hk
  · have : g = k := by simpa [Value.ownBlock] using hk
    subst this
    exact ⟨_, hh⟩
theorem dir_look {t : Tr} {n : Nat} (x : Txt) : dirF (t n).entries (.string x) = (look (t n).entries x).map numV := rfl
theorem upd_dirF (es es' : Row) (x : Txt) (v : Option Nat) (hs : look es' x = v) (ho : ∀ y, y ≠ x → look es' y = look es y) : dirF es' = upd (dirF es) (.string x) (v.map numV) := by
  funext l
  by_cases e : l = .string x
  · subst e
    rw [upd_same]
    show (look es' x).map _ = _
    rw [hs]
  · rw [upd_other _ e]
    cases l <;> try rfl
    rename_i y
    show (look es' y).map _ = (look es y).map _
    rw [ho y fun h => e (by rw [h])]
theorem wf_node {n : Nat} (h : n < 1000000) : (Lit.int .i64 (n : Int)).wf = true := WalkArith.wf_i64 (by omega)

namespace TreeAt
variable {w w' : World} {L : Lay} {N : Nat} {t : Tr}
theorem mono (h : TreeAt w L N t) {N' : Nat} (hN : N ≤ N') : TreeAt w L N' t :=
  { h with map := h.map.mono hN, dir := fun n hn => (h.dir n hn).mono hN }
theorem lt (h : TreeAt w L N t) {k : Nat} (hk : Foot L t k) : k < w.heap.size := by
  rcases hk with rfl | rfl | ⟨n, hn, rfl | ⟨hd, rfl⟩ | hv⟩
  · exact (Array.getElem?_eq_some_iff.1 h.tree).1
  · exact h.map.lt
  · exact (Array.getElem?_eq_some_iff.1 (h.node n hn)).1
  · exact (h.dir n hd).lt
  · exact (h.data n hn).lt k hv
theorem kept {S : Nat → Prop} (h : TreeAt w L N t) (k : Keep S w w') (hS : ∀ b, Foot L t b → ¬ S b) : TreeAt w' L N t where
  tree := (k.block _ (h.lt (.inl rfl)) (hS _ (.inl rfl))).trans h.tree
  map := h.map.kept k (hS _ (.inr (.inl rfl)))
  node := fun n hn => (k.block _ (h.lt (.inr (.inr ⟨n, hn, .inl rfl⟩))) (hS _ (.inr (.inr ⟨n, hn, .inl rfl⟩)))).trans (h.node n hn)
  dir := fun n hn => (h.dir n hn).kept k (hS _ (.inr (.inr ⟨n, by omega, .inr (.inl ⟨hn, rfl⟩)⟩)))
  data := fun n hn => (h.data n hn).kept k fun b hb => hS _ (.inr (.inr ⟨n, hn, .inr (.inr hb)⟩))
  nbi := h.nbi
  ebi := h.ebi
  ebm := h.ebm
  dvi := h.dvi
theorem far (h : TreeAt w L N t) (k : KF w w') : TreeAt w' L N t := h.kept k fun _ _ h => h
theorem drew (h : TreeAt w L N t) (n : Nat) : TreeAt (w.drewN n) L N t := h.far ((KF.refl w).drewN n)
/-- Cells that the tree's parts hold. -/
theorem cell_tree (h : TreeAt w L N t) : w.cell? ⟨L.tb, 0, none⟩ = some (.map (some L.mb)) := by simp [World.cell?, h.tree]
theorem cell_kind (h : TreeAt w L N t) {n : Nat} (hn : (t n).kind ≠ 0) : w.cell? ⟨L.nb n, 0, none⟩ = some (.int .i64 ((t n).kind : Int)) := by simp [World.cell?, h.node n hn]
theorem cell_links (h : TreeAt w L N t) {n : Nat} (hn : (t n).kind ≠ 0) : w.cell? ⟨L.nb n, 1, none⟩ = some (.int .i64 ((t n).links : Int)) := by simp [World.cell?, h.node n hn]
theorem cell_ents (h : TreeAt w L N t) {n : Nat} (hn : (t n).kind ≠ 0) : w.cell? ⟨L.nb n, 2, none⟩ = some (entV L t n) := by simp [World.cell?, h.node n hn]
theorem cell_dir (h : TreeAt w L N t) {n : Nat} (hn : (t n).kind = 1) : w.cell? ⟨L.nb n, 2, none⟩ = some (.map (some (L.eb n))) := by
  rw [h.cell_ents (by omega), entV, if_pos hn]
theorem cell_data (h : TreeAt w L N t) {n : Nat} (hn : (t n).kind ≠ 0) : w.cell? ⟨L.nb n, 3, none⟩ = some (L.dv n) := by simp [World.cell?, h.node n hn]
/-- Look-ups. -/
theorem zero_ptr (w : World) : (zeroValue 48).run Tryz.prog w = .ok (.pointer none) w := by kernel_rfl
theorem zero_int (w : World) : (zeroValue 3).run Tryz.prog w = .ok (.int .i64 0) w := by kernel_rfl
theorem int_law : Keyed Tryz.prog 3 := int_keyed Tryz.underlying3
theorem str_law : Keyed Tryz.prog 9 := string_keyed Tryz.underlying9
theorem look_node (h : TreeAt w L N t) {n : Nat} (hn : n < 1000000) : (Instr.lookup 50 (.map (some L.mb)) (.int .i64 (n : Int)) false).run Tryz.prog w =
    .ok (if (t n).kind ≠ 0 then .pointer (some ⟨L.nb n, 0, none⟩) else .pointer none) w := by
  rw [h.map.look int_law Tryz.underlying50 (zero_ptr w) (keyOf_int_mk Tryz.underlying3 (wf_node hn))]
  simp only [nodeF, Int.toNat_natCast]
  by_cases hk : (t n).kind = 0
  · simp [hk]
  · simp [hk]
theorem look_yes (h : TreeAt w L N t) {n : Nat} (hn : n < 1000000) (hk : (t n).kind ≠ 0) : (Instr.lookup 50 (.map (some L.mb)) (.int .i64 (n : Int)) false).run Tryz.prog w = .ok (.pointer (some ⟨L.nb n, 0, none⟩)) w := by
  rw [h.look_node hn, if_pos hk]
theorem look_name (h : TreeAt w L N t) {n : Nat} (hn : (t n).kind = 1) {x : Txt} (hx : x.length ≤ maxLen) : (Instr.lookup 68 (.map (some (L.eb n))) (.string (ba x)) true).run Tryz.prog w =
    .ok (.tuple #[.int .i64 (((look (t n).entries x).getD 0 : Nat) : Int), .bool (look (t n).entries x).isSome]) w := by
  rw [(h.dir n hn).look_ok str_law Tryz.underlying68 (zero_int w) (Go.WideMaps.keyOf_string_mk Tryz.underlying9 (by rw [ba_size]; exact hx))]
  show Result.ok (Value.tuple #[(dirF (t n).entries (.string x)).getD _, .bool (dirF (t n).entries (.string x)).isSome]) w = _
  rw [dir_look]
  cases look (t n).entries x <;> rfl
/-- Which blocks are which. -/
theorem nb_ne_tb (h : TreeAt w L N t) {n : Nat} (hn : (t n).kind ≠ 0) : L.nb n ≠ L.tb := fun e => by
  have h1 := h.node n hn
  rw [e, h.tree] at h1
  injection h1 with h1
  injection h1 with _ h1
  exact absurd h1 (by decide)
theorem nb_ne_map (h : TreeAt w L N t) {n b : Nat} (hn : (t n).kind ≠ 0) {es : Array MapEntry} {c : Nat} (hb : w.heap[b]? = some (.map es c)) : L.nb n ≠ b := fun e => by
  have h1 := h.node n hn
  rw [e, hb] at h1
  injection h1 with h1
  cases h1
theorem nb_ne_mb (h : TreeAt w L N t) {n : Nat} (hn : (t n).kind ≠ 0) : L.nb n ≠ L.mb := by
  obtain ⟨es, c, hb⟩ := h.map.heap
  exact h.nb_ne_map hn hb
theorem nb_ne_eb (h : TreeAt w L N t) {n m : Nat} (hn : (t n).kind ≠ 0) (hm : (t m).kind = 1) : L.nb n ≠ L.eb m := by
  obtain ⟨es, c, hb⟩ := (h.dir m hm).heap
  exact h.nb_ne_map hn hb
theorem dv_ne_nb (h : TreeAt w L N t) {n m : Nat} (hn : (t n).kind ≠ 0) (hm : (t m).kind ≠ 0) : (L.dv n).ownBlock ≠ some (L.nb m) := fun e => by
  obtain ⟨cs, hb⟩ := own_heap (h.data n hn) e
  rw [h.node m hm] at hb
  injection hb with hb
  injection hb with _ hb
  exact absurd hb (by decide)
theorem dv_ne_tb (h : TreeAt w L N t) {n : Nat} (hn : (t n).kind ≠ 0) : (L.dv n).ownBlock ≠ some L.tb := fun e => by
  obtain ⟨cs, hb⟩ := own_heap (h.data n hn) e
  rw [h.tree] at hb
  injection hb with hb
  injection hb with _ hb
  exact absurd hb (by decide)
theorem dv_ne_map (h : TreeAt w L N t) {n b : Nat} (hn : (t n).kind ≠ 0) {es : Array MapEntry} {c : Nat} (hb : w.heap[b]? = some (.map es c)) : (L.dv n).ownBlock ≠ some b := fun e => by
  obtain ⟨cs, hb'⟩ := own_heap (h.data n hn) e
  rw [hb] at hb'
  injection hb' with hb'
  cases hb'
theorem dv_ne_mb (h : TreeAt w L N t) {n : Nat} (hn : (t n).kind ≠ 0) : (L.dv n).ownBlock ≠ some L.mb := by
  obtain ⟨es, c, hb⟩ := h.map.heap
  exact h.dv_ne_map hn hb
theorem dv_ne_eb (h : TreeAt w L N t) {n m : Nat} (hn : (t n).kind ≠ 0) (hm : (t m).kind = 1) : (L.dv n).ownBlock ≠ some (L.eb m) := by
  obtain ⟨es, c, hb⟩ := (h.dir m hm).heap
  exact h.dv_ne_map hn hb
theorem tb_ne_mb (h : TreeAt w L N t) : L.tb ≠ L.mb := fun e => by
  obtain ⟨es, c, hb⟩ := h.map.heap
  rw [← e, h.tree] at hb
  injection hb with hb
  cases hb
theorem tb_ne_eb (h : TreeAt w L N t) {m : Nat} (hm : (t m).kind = 1) : L.tb ≠ L.eb m := fun e => by
  obtain ⟨es, c, hb⟩ := (h.dir m hm).heap
  rw [← e, h.tree] at hb
  injection hb with hb
  cases hb

/-- A node's links or bytes have turned. -/
theorem node_turn (h : TreeAt w L N t) {a : Nat} (ha : (t a).kind ≠ 0) (k : Keep (fun b => b = L.nb a) w w') (links : Nat) (data : Txt) (v : Value)
    (hb : w'.heap[L.nb a]? = some (.cells #[.int .i64 ((t a).kind : Int), .int .i64 (links : Int), entV L t a, v] 70)) (hv : Own 5 w' v data)
    (hi : ∀ m, m ≠ a → (t m).kind ≠ 0 → ∀ b, v.ownBlock = some b → (L.dv m).ownBlock ≠ some b) :
    TreeAt w' { L with dv := fun n => if n = a then v else L.dv n } N (t.set a ⟨(t a).kind, links, data, (t a).entries⟩) := by
  have hkind : ∀ n, ((t.set a ⟨(t a).kind, links, data, (t a).entries⟩) n).kind = (t n).kind := fun n => by
    unfold Tr.set
    split
    · next e => rw [e]
    · rfl
  have hents : ∀ n, ((t.set a ⟨(t a).kind, links, data, (t a).entries⟩) n).entries = (t n).entries := fun n => by
    unfold Tr.set
    split
    · next e => rw [e]
    · rfl
  have hent : ∀ n, entV { L with dv := fun n => if n = a then v else L.dv n } (t.set a ⟨(t a).kind, links, data, (t a).entries⟩) n = entV L t n := fun n => by
    unfold entV
    rw [hkind]
  constructor
  · exact (k.block _ (h.lt (.inl rfl)) fun e => h.nb_ne_tb ha e.symm).trans h.tree
  · refine (h.map.kept k fun e => h.nb_ne_mb ha e.symm).congr fun x xl hx => ?_
    obtain ⟨z, _, rfl, _⟩ := Maps.keyOf_i64 Tryz.underlying3 hx
    simp only [nodeF, hkind]
  · intro n hn
    rw [hkind] at hn
    rw [hent, hkind]
    by_cases e : n = a
    · subst e
      simp only [if_true, Tr.set_same]
      exact hb
    · simp only [if_neg e, Tr.set_other e]
      exact (k.block _ (h.lt (.inr (.inr ⟨n, hn, .inl rfl⟩))) fun e' => e (h.nbi n a hn ha e')).trans (h.node n hn)
  · intro n hn
    rw [hkind] at hn
    rw [hents]
    exact (h.dir n hn).kept k fun e => h.nb_ne_eb ha hn e.symm
  · intro n hn
    rw [hkind] at hn
    by_cases e : n = a
    · subst e
      simp only [if_true, Tr.set_same]
      exact hv
    · simp only [if_neg e, Tr.set_other e]
      exact (h.data n hn).kept k fun b hb' e' => h.dv_ne_nb hn ha (by rw [hb', e'])
  · intro n m hn hm
    rw [hkind] at hn hm
    exact h.nbi n m hn hm
  · intro n m hn hm
    rw [hkind] at hn hm
    exact h.ebi n m hn hm
  · intro n hn
    rw [hkind] at hn
    exact h.ebm n hn
  · intro n m hn hm b h1 h2
    rw [hkind] at hn hm
    by_cases e : n = a
    · by_cases e' : m = a
      · rw [e, e']
      · subst e
        simp only [if_true, if_neg e'] at h1 h2
        exact absurd h2 (hi m e' hm b h1)
    · by_cases e' : m = a
      · subst e'
        simp only [if_true, if_neg e] at h1 h2
        exact absurd h1 (hi n e hn b h2)
      · simp only [if_neg e, if_neg e'] at h1 h2
        exact h.dvi n m hn hm b h1 h2
/-- A directory's entries have turned. -/
theorem dir_turn (h : TreeAt w L N t) {d : Nat} (hd : (t d).kind = 1) (k : Keep (fun b => b = L.eb d) w w') {N' : Nat} (hN : N ≤ N') (es : Row) (hm : MapV Tryz.prog 9 w' (L.eb d) N' (dirF es)) : TreeAt w' L N' (t.rows d es) := by
  constructor
  · exact (k.block _ (h.lt (.inl rfl)) (h.tb_ne_eb hd)).trans h.tree
  · refine ((h.map.kept k fun e => h.ebm d hd e.symm).mono hN).congr fun x xl hx => ?_
    obtain ⟨z, _, rfl, _⟩ := Maps.keyOf_i64 Tryz.underlying3 hx
    simp only [nodeF, Tr.rows_kind]
  · intro n hn
    rw [Tr.rows_kind] at hn
    have : entV L (t.rows d es) n = entV L t n := by unfold entV; rw [Tr.rows_kind]
    rw [this, Tr.rows_kind, Tr.rows_links]
    exact (k.block _ (h.lt (.inr (.inr ⟨n, hn, .inl rfl⟩))) (h.nb_ne_eb hn hd)).trans (h.node n hn)
  · intro n hn
    rw [Tr.rows_kind] at hn
    rw [Tr.rows_entries]
    by_cases e : n = d
    · subst e
      rw [if_pos rfl]
      exact hm
    · rw [if_neg e]
      exact ((h.dir n hn).kept k fun e' => e (h.ebi n d hn hd e')).mono hN
  · intro n hn
    rw [Tr.rows_kind] at hn
    rw [Tr.rows_data]
    exact (h.data n hn).kept k fun b hb e => h.dv_ne_eb hn hd (by rw [hb, e])
  · intro n m hn hm
    rw [Tr.rows_kind] at hn hm
    exact h.nbi n m hn hm
  · intro n m hn hm
    rw [Tr.rows_kind] at hn hm
    exact h.ebi n m hn hm
  · intro n hn
    rw [Tr.rows_kind] at hn
    exact h.ebm n hn
  · intro n m hn hm
    rw [Tr.rows_kind] at hn hm
    exact h.dvi n m hn hm
/-- A node has gone. -/
theorem gone (h : TreeAt w L N t) (a : Nat) (k : Keep (fun b => b = L.mb) w w') (hm : MapV Tryz.prog 3 w' L.mb N (upd (nodeF L t) (.int .i64 (a : Int)) none)) : TreeAt w' L N (t.set a noNode) := by
  have hk : ∀ n, ((t.set a noNode) n).kind ≠ 0 → n ≠ a ∧ (t n).kind ≠ 0 := fun n hn => by
    by_cases e : n = a
    · subst e; rw [Tr.set_same] at hn; exact absurd rfl hn
    · rw [Tr.set_other e] at hn; exact ⟨e, hn⟩
  have hk1 : ∀ n, ((t.set a noNode) n).kind = 1 → n ≠ a ∧ (t n).kind = 1 := fun n hn => by
    have := (hk n (by omega)).1
    rw [Tr.set_other this] at hn
    exact ⟨this, hn⟩
  constructor
  · exact (k.block _ (h.lt (.inl rfl)) h.tb_ne_mb).trans h.tree
  · refine hm.congr fun x xl hx => ?_
    obtain ⟨z, _, rfl, _⟩ := Maps.keyOf_i64 Tryz.underlying3 hx
    by_cases e : z = (a : Int)
    · subst e
      rw [upd_same]
      simp [nodeF, Tr.set_same, noNode]
    · rw [upd_other _ fun he => e (by injection he)]
      simp only [nodeF]
      by_cases hz : 0 ≤ z
      · rw [Tr.set_other (by omega)]
      · rw [if_neg fun hh => hz hh.1, if_neg fun hh => hz hh.1]
  · intro n hn
    obtain ⟨hne, hn⟩ := hk n hn
    have : entV L (t.set a noNode) n = entV L t n := by unfold entV; rw [Tr.set_other hne]
    rw [this, Tr.set_other hne]
    exact (k.block _ (h.lt (.inr (.inr ⟨n, hn, .inl rfl⟩))) (h.nb_ne_mb hn)).trans (h.node n hn)
  · intro n hn
    obtain ⟨hne, hn⟩ := hk1 n hn
    rw [Tr.set_other hne]
    exact (h.dir n hn).kept k (h.ebm n hn)
  · intro n hn
    obtain ⟨hne, hn⟩ := hk n hn
    rw [Tr.set_other hne]
    exact (h.data n hn).kept k fun b hb e => h.dv_ne_mb hn (by rw [hb, e])
  · exact fun n m hn hm => h.nbi n m (hk n hn).2 (hk m hm).2
  · exact fun n m hn hm => h.ebi n m (hk1 n hn).2 (hk1 m hm).2
  · exact fun n hn => h.ebm n (hk1 n hn).2
  · exact fun n m hn hm => h.dvi n m (hk n hn).2 (hk m hm).2
/-- A node has come: a directory, or a file without bytes, whose blocks lay there already. -/
theorem come (h : TreeAt w L N t) (a : Nat) (ha : (t a).kind = 0) (kind : Nat) (hk : kind = 1 ∨ kind = 2) (k : Keep (fun b => b = L.mb) w w') {N' : Nat} (hN : N ≤ N') (b e : Nat)
    (hb : w.heap[b]? = some (.cells #[.int .i64 (kind : Int), .int .i64 1, if kind = 1 then .map (some e) else .map none, .slice none 0 0] 70))
    (hnew : ¬ Foot L t b ∧ (kind = 1 → MapV Tryz.prog 9 w e 0 (fun _ => none) ∧ ¬ Foot L t e))
    (hm : MapV Tryz.prog 3 w' L.mb N' (upd (nodeF L t) (.int .i64 (a : Int)) (some (.pointer (some ⟨b, 0, none⟩))))) :
    TreeAt w' { L with nb := fun n => if n = a then b else L.nb n, eb := fun n => if n = a then e else L.eb n, dv := fun n => if n = a then .slice none 0 0 else L.dv n } N' (t.set a ⟨kind, 1, [], []⟩) := by
  have hlb : b < w.heap.size := (Array.getElem?_eq_some_iff.1 hb).1
  have hbm : b ≠ L.mb := fun e => hnew.1 (.inr (.inl e))
  have hk0 : ∀ n, n ≠ a → ((t.set a ⟨kind, 1, [], []⟩) n).kind = (t n).kind := fun n hn => by rw [Tr.set_other hn]
  have hka : ((t.set a ⟨kind, 1, [], []⟩) a).kind = kind := by rw [Tr.set_same]
  constructor
  · exact (k.block _ (h.lt (.inl rfl)) h.tb_ne_mb).trans h.tree
  · refine hm.congr fun x xl hx => ?_
    obtain ⟨z, _, rfl, _⟩ := Maps.keyOf_i64 Tryz.underlying3 hx
    by_cases hz : z = (a : Int)
    · subst hz
      rw [upd_same]
      have : kind ≠ 0 := by omega
      simp [nodeF, Tr.set_same, this]
    · rw [upd_other _ fun he => hz (by injection he)]
      simp only [nodeF]
      by_cases hz' : 0 ≤ z
      · have : z.toNat ≠ a := by omega
        rw [Tr.set_other this, if_neg this]
      · rw [if_neg fun hh => hz' hh.1, if_neg fun hh => hz' hh.1]
  · intro n hn
    by_cases hna : n = a
    · subst hna
      simp only [entV, Tr.set_same, if_true]
      exact (k.block _ hlb hbm).trans hb
    · rw [hk0 n hna] at hn
      simp only [entV, Tr.set_other hna, if_neg hna]
      exact (k.block _ (h.lt (.inr (.inr ⟨n, hn, .inl rfl⟩))) (h.nb_ne_mb hn)).trans (h.node n hn)
  · intro n hn
    by_cases hna : n = a
    · subst hna
      rw [Tr.set_same] at hn
      simp only [Tr.set_same, if_true]
      obtain ⟨he, hf⟩ := hnew.2 hn
      exact ((he.kept k fun e' => hf (.inr (.inl e'))).mono (Nat.zero_le _)).congr fun v kl _ => by cases kl <;> rfl
    · rw [hk0 n hna] at hn
      simp only [Tr.set_other hna, if_neg hna]
      exact ((h.dir n hn).kept k (h.ebm n hn)).mono hN
  · intro n hn
    by_cases hna : n = a
    · subst hna
      simp only [Tr.set_same, if_true]
      exact Own.nil _ _
    · rw [hk0 n hna] at hn
      simp only [Tr.set_other hna, if_neg hna]
      exact (h.data n hn).kept k fun b hb e => h.dv_ne_mb hn (by rw [hb, e])
  · intro n m hn hm he
    by_cases hna : n = a
    · by_cases hma : m = a
      · rw [hna, hma]
      · rw [hk0 m hma] at hm
        simp only [if_pos hna, if_neg hma] at he
        exact absurd (.inr (.inr ⟨m, hm, .inl he⟩)) hnew.1
    · by_cases hma : m = a
      · rw [hk0 n hna] at hn
        simp only [if_neg hna, if_pos hma] at he
        exact absurd (.inr (.inr ⟨n, hn, .inl he.symm⟩)) hnew.1
      · rw [hk0 n hna] at hn
        rw [hk0 m hma] at hm
        simp only [if_neg hna, if_neg hma] at he
        exact h.nbi n m hn hm he
  · intro n m hn hm he
    by_cases hna : n = a
    · by_cases hma : m = a
      · rw [hna, hma]
      · subst hna
        rw [hka] at hn
        rw [hk0 m hma] at hm
        simp only [if_true, if_neg hma] at he
        exact absurd (.inr (.inr ⟨m, by omega, .inr (.inl ⟨hm, he⟩)⟩)) (hnew.2 hn).2
    · by_cases hma : m = a
      · subst hma
        rw [hka] at hm
        rw [hk0 n hna] at hn
        simp only [if_neg hna, if_true] at he
        exact absurd (.inr (.inr ⟨n, by omega, .inr (.inl ⟨hn, he.symm⟩)⟩)) (hnew.2 hm).2
      · rw [hk0 n hna] at hn
        rw [hk0 m hma] at hm
        simp only [if_neg hna, if_neg hma] at he
        exact h.ebi n m hn hm he
  · intro n hn
    by_cases hna : n = a
    · subst hna
      rw [hka] at hn
      simp only [if_true]
      exact fun e' => (hnew.2 hn).2 (.inr (.inl e'))
    · rw [hk0 n hna] at hn
      simp only [if_neg hna]
      exact h.ebm n hn
  · intro n m hn hm q h1 h2
    by_cases hna : n = a
    · simp only [if_pos hna] at h1
      simp [Value.ownBlock] at h1
    · by_cases hma : m = a
      · simp only [if_pos hma] at h2
        simp [Value.ownBlock] at h2
      · rw [hk0 n hna] at hn
        rw [hk0 m hma] at hm
        simp only [if_neg hna, if_neg hma] at h1 h2
        exact h.dvi n m hn hm q h1 h2
end TreeAt
end Go.Proofs.YtlpjbgplimlcaaaGreatDoor
