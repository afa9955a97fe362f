/-
  Maps in memory, whatever their elements are: what stands at each key, as a function. It speaks of no program.
-/
import Derived.Test.YtklpebfkgdklmabDoorText
import Derived.Maps.OwnSet
import Derived.Sort.KeysCollected
import Derived.Lib.SlKeysI
namespace Go.Proofs.YtklpebfkgdklmabDoor
open Go.RowKit Go.Maps

abbrev VD := DataW Value
/-- Any element reads as itself. -/
def anyElem (v : Value) : Option (VD × List MemPlace) := some (.held v, [])
/-- The datum D has just what f gives. -/
def Tells (P : Program) (K : TypeId) (D : VD) (f : Lit → Option Value) : Prop :=
  ∀ v kl, keyOf P K v = some kl → Maps.has D kl = (f kl).isSome ∧ ∀ z, D.atKey kl (.held z) = .held ((f kl).getD z)
/-- Block b is a map that has just what f gives, n entries at most. -/
def MapV (P : Program) (K : TypeId) (w : World) (b n : Nat) (f : Lit → Option Value) : Prop :=
  ∃ D : VD, w.ownsMap P K anyElem b n D ∧ Tells P K D f
open Classical in
/-- f, but for a key. -/
noncomputable def upd (f : Lit → Option Value) (k : Lit) (v : Option Value) : Lit → Option Value := fun x => if x = k then v else f x
theorem upd_same (f : Lit → Option Value) (k : Lit) (v : Option Value) : upd f k v k = v := if_pos rfl
theorem upd_other (f : Lit → Option Value) {k x : Lit} (h : x ≠ k) (v : Option Value) : upd f k v x = f x := if_neg h

section
variable {P : Program} {K : TypeId} {w w' : World} {b n : Nat} {f : Lit → Option Value}
theorem MapV.lt (h : MapV P K w b n f) : b < w.heap.size := by obtain ⟨D, h, _⟩ := h; exact h.lt
theorem MapV.mono (h : MapV P K w b n f) {n' : Nat} (hn : n ≤ n') : MapV P K w b n' f := by obtain ⟨D, h, ht⟩ := h; exact ⟨D, h.mono hn, ht⟩
theorem MapV.kept {S : Nat → Prop} (h : MapV P K w b n f) (k : Keep S w w') (hn : ¬ S b) : MapV P K w' b n f := by
  obtain ⟨D, h, ht⟩ := h
  have hlt := h.lt
  obtain ⟨es, clock, hb, F, hs, hD⟩ := h
  exact ⟨D, ⟨es, clock, (k.block b hlt hn).trans hb, F, hs, hD⟩, ht⟩
theorem MapV.congr (h : MapV P K w b n f) {g : Lit → Option Value} (hg : ∀ v kl, keyOf P K v = some kl → f kl = g kl) : MapV P K w b n g := by
  obtain ⟨D, h, ht⟩ := h
  exact ⟨D, h, fun v kl hk => by rw [← hg v kl hk]; exact ht v kl hk⟩
theorem MapV.made (P : Program) (K : TypeId) (w : World) : MapV P K (w.alloc (.map #[] 0)) w.heap.size 0 fun _ => none :=
  ⟨.map [], World.ownsMap_made w P K anyElem, fun v kl _ => ⟨rfl, fun z => rfl⟩⟩
theorem MapV.heap (h : MapV P K w b n f) : ∃ es clock, w.heap[b]? = some (.map es clock) := by
  obtain ⟨D, ⟨es, clock, hb, _⟩, _⟩ := h
  exact ⟨es, clock, hb⟩
theorem MapV.look {t e : TypeId} (h : MapV P K w b n f) (law : Keyed P K) (ht : P.underlying t = some (.map K e)) {z : Value} (hz : (zeroValue e).run P w = .ok z w) {key : Value} {kl : Lit} (hkey : keyOf P K key = some kl) :
    (Instr.lookup t (.map (some b)) key false).run P w = .ok ((f kl).getD z) w := by
  obtain ⟨D, h, hT⟩ := h
  obtain ⟨v, ps, hrun, hv⟩ := h.lookup law ht hz (zd := .held z) (zp := []) rfl hkey
  rw [(hT key kl hkey).2 z] at hv
  simp only [anyElem, Option.some.injEq, Prod.mk.injEq, DataW.held.injEq] at hv
  rw [hrun, hv.1]
theorem MapV.look_ok {t e : TypeId} (h : MapV P K w b n f) (law : Keyed P K) (ht : P.underlying t = some (.map K e)) {z : Value} (hz : (zeroValue e).run P w = .ok z w) {key : Value} {kl : Lit} (hkey : keyOf P K key = some kl) :
    (Instr.lookup t (.map (some b)) key true).run P w = .ok (.tuple #[(f kl).getD z, .bool (f kl).isSome]) w := by
  obtain ⟨D, h, hT⟩ := h
  obtain ⟨v, ps, hrun, hv⟩ := h.look_ok law ht hz (zd := .held z) (zp := []) rfl hkey
  rw [(hT key kl hkey).2 z] at hv
  simp only [anyElem, Option.some.injEq, Prod.mk.injEq, DataW.held.injEq] at hv
  rw [hrun, hv.1, (hT key kl hkey).1]
theorem Tells.put {D : VD} (hT : Tells P K D f) (hD : IsMap D) (law : Keyed P K) {key : Value} {kl : Lit} (hkey : keyOf P K key = some kl) (v : Value) : Tells P K (D.put kl (.held v)) (upd f kl (some v)) := fun x xl hx => by
  by_cases e : xl = kl
  · subst e
    rw [upd_same]
    exact ⟨has_put_same hD (law.key hkey) _, fun z => atKey_put_same hD (law.key hkey) _ _⟩
  · rw [upd_other f e]
    exact ⟨(has_put_other e _).trans (hT x xl hx).1, fun z => (atKey_put_other e _ _).trans ((hT x xl hx).2 z)⟩
theorem Tells.del {D : VD} (hT : Tells P K D f) {kl : Lit} : Tells P K (D.del kl) (upd f kl none) := fun x xl hx => by
  by_cases e : xl = kl
  · subst e
    rw [upd_same]
    exact ⟨has_del_same, fun z => atKey_del_same _⟩
  · rw [upd_other f e]
    exact ⟨(has_del_other e).trans (hT x xl hx).1, fun z => (atKey_del_other e _).trans ((hT x xl hx).2 z)⟩
theorem MapV.store {t e : TypeId} (h : MapV P K w b n f) (law : Keyed P K) (ht : P.underlying t = some (.map K e)) (hn : n < maxLen) {key val : Value} {kl : Lit} (hkey : keyOf P K key = some kl) :
    ∃ w', (Instr.mapUpdate t (.map (some b)) key val).run P w = .ok () w' ∧ MapV P K w' b (n + 1) (upd f kl (some val)) ∧ w.mapTurned w' b := by
  obtain ⟨D, h, hT⟩ := h
  obtain ⟨w', hrun, h', ht'⟩ := h.store law ht hn hkey (val := val) (d := .held val) (ps := []) rfl
  exact ⟨w', hrun, ⟨_, h', hT.put h.isMap law hkey val⟩, ht'⟩
theorem MapV.drop {t e : TypeId} (h : MapV P K w b n f) (law : Keyed P K) (ht : P.underlying t = some (.map K e)) {key : Value} {kl : Lit} (hkey : keyOf P K key = some kl) (ty : TypeId) :
    ∃ w', (Builtin.delete_ #[t, K] ty #[.map (some b), key]).run P w = .ok (.tuple #[]) w' ∧ MapV P K w' b n (upd f kl none) ∧ w.mapTurned w' b := by
  obtain ⟨D, h, hT⟩ := h
  obtain ⟨w', hrun, h', ht'⟩ := h.drop law ht hkey ty
  exact ⟨w', hrun, ⟨_, h', hT.del⟩, ht'⟩
/-- A map whose keys are texts: how many entries it has, and its keys. -/
theorem MapV.strs {xs : List (List UInt8)} (h : MapV P K w b n f) (law : Keyed P K) (hk : P.underlying K = some .string) (hnd : xs.Nodup) (hx : ∀ x ∈ xs, x.length ≤ maxLen) (hf : ∀ x : List UInt8, x.length ≤ maxLen → (x ∈ xs ↔ (f (.string x)).isSome = true)) :
    ∃ D : VD, w.ownsMap P K anyElem b n D ∧ xs.Perm (strKeys D) ∧ Maps.size D = xs.length := by
  obtain ⟨D, h, hT⟩ := h
  obtain ⟨es, hD, hpw, _⟩ := h.entries law
  obtain ⟨es', hD', hko⟩ := h.keysOf
  obtain rfl : es = es' := by rw [hD] at hD'; simpa using hD'
  subst hD
  have hp : xs.Perm (strKeys (.map es)) := by
    refine perm_strKeys hpw (fun p hp => by obtain ⟨v, hv⟩ := hko p hp; obtain ⟨x, _, hx, _⟩ := Maps.keyOf_str hk hv; exact ⟨x, hx⟩) hnd fun x => ?_
    by_cases hl : x.length ≤ maxLen
    · rw [(hT (.string (ba x)) (.string x) (Go.WideMaps.keyOf_string_mk hk (by rw [ba_size]; exact hl))).1]
      exact hf x hl
    · constructor
      · intro hxs; exact absurd (hx x hxs) hl
      · intro hh
        rw [has_eq, List.any_eq_true] at hh
        obtain ⟨p, hp, hs⟩ := hh
        obtain ⟨v, hv⟩ := hko p hp
        obtain ⟨y, _, hy, hyl⟩ := Maps.keyOf_str hk hv
        rw [hy] at hs
        have : y = x := by simpa [Lit.sameKey] using hs
        exact absurd (this ▸ hyl) hl
  refine ⟨_, h, hp, ?_⟩
  rw [hp.length_eq]
  simp [Maps.size, strKeys]
theorem MapV.len_strs {t e : TypeId} {xs : List (List UInt8)} (h : MapV P K w b n f) (law : Keyed P K) (hk : P.underlying K = some .string) (ht : P.underlying t = some (.map K e)) (hnd : xs.Nodup) (hx : ∀ x ∈ xs, x.length ≤ maxLen) (hf : ∀ x : List UInt8, x.length ≤ maxLen → (x ∈ xs ↔ (f (.string x)).isSome = true)) (ty : TypeId) :
    (Builtin.len_ #[t] ty #[.map (some b)]).run P w = .ok (.int .i64 (xs.length : Int)) w := by
  obtain ⟨D, hD, _, hs⟩ := h.strs law hk hnd hx hf
  rw [hD.len ht ty, hs]
/-- A map whose keys are numbers. -/
theorem MapV.ints {xs : List Int} (h : MapV P K w b n f) (law : Keyed P K) (hk : P.underlying K = some (.int .i64)) (hnd : xs.Nodup) (hx : ∀ x ∈ xs, (Lit.int .i64 x).wf = true) (hf : ∀ x : Int, (Lit.int .i64 x).wf = true → (x ∈ xs ↔ (f (.int .i64 x)).isSome = true)) :
    ∃ D : VD, w.ownsMap P K anyElem b n D ∧ xs.Perm (intKeys D) ∧ Maps.size D = xs.length := by
  obtain ⟨D, h, hT⟩ := h
  obtain ⟨es, hD, hpw, _⟩ := h.entries law
  obtain ⟨es', hD', hko⟩ := h.keysOf
  obtain rfl : es = es' := by rw [hD] at hD'; simpa using hD'
  subst hD
  have hp : xs.Perm (intKeys (.map es)) := by
    refine perm_intKeys hpw (fun p hp => by obtain ⟨v, hv⟩ := hko p hp; obtain ⟨x, _, hx, _⟩ := Maps.keyOf_i64 hk hv; exact ⟨x, hx⟩) hnd fun x => ?_
    by_cases hl : (Lit.int .i64 x).wf = true
    · rw [(hT (.int .i64 x) (.int .i64 x) (keyOf_int_mk hk hl)).1]
      exact hf x hl
    · constructor
      · intro hxs; exact absurd (hx x hxs) hl
      · intro hh
        rw [has_eq, List.any_eq_true] at hh
        obtain ⟨p, hp, hs⟩ := hh
        obtain ⟨v, hv⟩ := hko p hp
        obtain ⟨y, _, hy, hyl⟩ := Maps.keyOf_i64 hk hv
        rw [hy] at hs
        have : y = x := by simpa [Lit.sameKey] using hs
        exact absurd (this ▸ hyl) hl
  refine ⟨_, h, hp, ?_⟩
  rw [hp.length_eq]
  simp [Maps.size, intKeys]
theorem MapV.len_ints {t e : TypeId} {xs : List Int} (h : MapV P K w b n f) (law : Keyed P K) (hk : P.underlying K = some (.int .i64)) (ht : P.underlying t = some (.map K e)) (hnd : xs.Nodup) (hx : ∀ x ∈ xs, (Lit.int .i64 x).wf = true) (hf : ∀ x : Int, (Lit.int .i64 x).wf = true → (x ∈ xs ↔ (f (.int .i64 x)).isSome = true)) (ty : TypeId) :
    (Builtin.len_ #[t] ty #[.map (some b)]).run P w = .ok (.int .i64 (xs.length : Int)) w := by
  obtain ⟨D, hD, _, hs⟩ := h.ints law hk hnd hx hf
  rw [hD.len ht ty, hs]
theorem Keep.turned (h : w.mapTurned w' b) : Keep (fun k => k = b) w w' :=
  (Keep.of_grown h.grown).mono fun i _ hi => by injection hi with hi; exact hi.symm
end
end Go.Proofs.YtklpebfkgdklmabDoor
