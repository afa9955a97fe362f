/-
  Closed facts of this seat that every law's row asks: three tables, a world in which they hold what their texts say; a call that came in.
-/
import Derived.Test.YtklpebfkgdklmaaDoorSplit
import Derived.Test.YtklpebfkgdklmaaDoorCallLaw
import Derived.Test.YtklpebfkgdklmaaDoorUnlike
import Derived.Test.YtklpebfkgdklmaaDoorLaw
import Derived.Test.YtklpebfkgdklmaaDoorCards
import Derived.Test.YtklpebfkgdklmaaDoorTie
import Derived.Deep.DeepHandedRow
import Derived.Shelf.Vars
import Derived.Lib.LaidTab
import Derived.Stop.LaidErr
namespace Go.Proofs.YtklpebfkgdklmaaDoor
open Go.RowKit Go.ChangeShapes Go.WideShapes Go.ChangeAt
theorem own : ownKnob Tryd.prog.godebug = none := by kernel_rfl
theorem laidOut : laidOutB Tryd.prog = true := by kernel_rfl
theorem cellsStr : Tryd.prog.cellsOf 9 = 1 := by kernel_rfl
theorem cellsU8 : Tryd.prog.cellsOf 5 = 1 := by kernel_rfl
theorem cellsCall : Tryd.prog.cellsOf 24 = 6 := by kernel_rfl
theorem cellsInt : Tryd.prog.cellsOf 3 = 1 := by kernel_rfl
theorem cellsBytes : Tryd.prog.cellsOf 22 = 1 := by kernel_rfl
theorem gTab : Tryd.prog.globalNamed "tideline/check.four" = some 0 := by kernel_rfl
theorem gTabType : (Tryd.prog.globals[0]?).map (·.type) = some 130 := by kernel_rfl
theorem cellsTab : Tryd.prog.cellsOf 130 = 16 := by kernel_rfl
theorem cellsU32 : Tryd.prog.cellsOf 69 = 1 := by kernel_rfl
def tabInts : List Int := [0, 498536548, 997073096, 651767980, 1994146192, 1802195444, 1303535960, 1342533948, 3988292384, 4027552580, 3604390888, 3412177804, 2607071920, 2262029012, 2685067896, 3183342108]
theorem tabInts_at (i : Nat) (h : i < 16) : tabInts.getD i 0 = ((tab.getD i 0 : Nat) : Int) := by
  have : ∀ i : Fin 16, tabInts.getD i.1 0 = ((tab.getD i.1 0 : Nat) : Int) := by decide
  exact this ⟨i, h⟩
theorem env_of {W : World} (h : W.ShapedOpen Tryd.prog) : Env W :=
  cell_of_shapedOpen_int (zero := #[.int .i64 0]) (t := 3) h (of_decide_eq_true (by kernel_rfl)) (by kernel_rfl) rfl (by kernel_rfl) (by kernel_rfl) Tryd.underlying3
theorem tab_of {W : World} {a b : String × DataW Unit} (h : laidMet Tryd.prog (a :: ("tideline/check.four", Lib.tabData .u32 tabInts) :: [b]) W) : Tab W := by
  have t : Lib.TabIs Tryd.prog W "tideline/check.four" .u32 tabInts := Lib.tabIs_of_head gTab gTabType Tryd.underlying130 Tryd.underlying69 cellsU32 cellsTab (laidMet.tail h)
  intro i hi
  rw [← tabInts_at i hi]
  exact t.cell gTab i (by simpa [tabInts] using hi)
def acceptInts : List Int := [128, 191, 160, 191, 128, 159, 144, 191, 128, 143, 0, 0, 0, 0, 0, 0, 0, 0, 0, 0, 0, 0, 0, 0, 0, 0, 0, 0, 0, 0, 0, 0]
def holdObj (cs : Array Value) : Obj → Obj
  | .cells _ t frozen => .cells cs t frozen
  | o => o
/-- A world for the witness: the settled one, the tables holding what their initialisers lay. -/
noncomputable def laidWorld (os : Os) : World :=
  { World.holding Tryd.prog os ⟨#[], #[], []⟩ with heap := (((World.holding Tryd.prog os ⟨#[], #[], []⟩).heap.modify 3 (holdObj (acceptInts.map (Value.int .u8)).toArray)).modify 0 (holdObj (tabInts.map (Value.int .u32)).toArray)).modify 2 (holdObj (Go.Pinned.utf8FirstZ.map fun n : Nat => Value.int .u8 (n : Int)).toArray) }
theorem callFields : ∃ f0 f1 f2 f3 f4 f5 : Field, Tryd.prog.underlying 24 = some (.struct #[f0, f1, f2, f3, f4, f5]) ∧ (f0.type = 3 ∧ f0.offset = 0) ∧ (f1.type = 9 ∧ f1.offset = 1) ∧ (f2.type = 9 ∧ f2.offset = 2) ∧ (f3.type = 3 ∧ f3.offset = 3) ∧ (f4.type = 3 ∧ f4.offset = 4) ∧ (f5.type = 22 ∧ f5.offset = 5) :=
  ⟨_, _, _, _, _, _, Tryd.underlying24, ⟨rfl, rfl⟩, ⟨rfl, rfl⟩, ⟨rfl, rfl⟩, ⟨rfl, rfl⟩, ⟨rfl, rfl⟩, ⟨rfl, rfl⟩⟩
section
variable {H : Type} {enc : TypeId × Value → H} {W : World}
set_option maxRecDepth 100000 in
theorem bytes_in {base : Nat} {spare : Nat → Bool} {held : Bool} {fuel : Nat} {cs : List Value} {y : DataW H × List MemPlace} (h : DataW.trod enc Tryd.prog W base spare held fuel 22 cs = some y) :
    ∃ (A : Option Addr) (l : List UInt8) (c : Nat), cs = [.slice A l.length c] ∧ l.length ≤ c ∧ c ≤ maxLen ∧ Rd W W.heap.size A l := by
  rcases DataW.trod_slice Tryd.underlying22 h with ⟨e3, _⟩ | ⟨a, m, c, _, _, _, _, e3, _⟩
  · exact ⟨none, [], 0, e3, Nat.le_refl _, Nat.zero_le _, Rd.nil⟩
  · rcases open_ints Tryd.underlying22 Tryd.underlying5 cellsU8 h with ⟨hcs, _⟩ | ⟨a, len, cap, zs, hcs, _, hl, hm, hz, _, hcell, hwz⟩
    · exact ⟨none, [], 0, hcs, Nat.le_refl _, Nat.zero_le _, Rd.nil⟩
    · have hle : len ≤ zs.length := by rw [hz]; split <;> omega
      have hb : ∀ n ∈ zs, 0 ≤ n ∧ n < 256 := fun n hn => by
        have h := hwz n hn
        have h1 : IntKind.u8.min = 0 := rfl
        have h2 : IntKind.u8.max = 255 := rfl
        simp only [Lit.wf, Bool.and_eq_true, decide_eq_true_eq, h1, h2] at h
        omega
      have hlen : ((zs.take len).map fun n => UInt8.ofNat n.toNat).length = len := by simp; omega
      refine ⟨some a, (zs.take len).map fun n => UInt8.ofNat n.toNat, cap, by rw [hlen]; exact hcs, by omega, hm, fun j b hj => ?_⟩
      have hjl : j < len := by
        rcases Nat.lt_or_ge j len with h' | h'
        · exact h'
        · rw [List.getElem?_eq_none (by omega)] at hj; cases hj
      have hc := hcell j (by omega)
      have hlt := World.block_lt_of_cell? W _ hc
      rw [block_add] at hlt
      refine ⟨a, rfl, hlt, ?_⟩
      rw [hc]
      have hjz : j < zs.length := by omega
      simp only [List.getElem?_map, List.getElem?_take, hjl, if_true, List.getElem?_eq_getElem hjz, Option.map_some, Option.some.injEq] at hj
      have hbj := hb _ (List.getElem_mem hjz)
      rw [← hj]
      simp only [List.getD, List.getElem?_eq_getElem hjz, Option.getD_some]
      have : (UInt8.ofNat zs[j].toNat).toNat = zs[j].toNat := by
        rw [UInt8.toNat_ofNat']
        exact Nat.mod_eq_of_lt (by omega)
      rw [this]
      congr 2
      omega
theorem i64_of_wf {n : Int} (h : (Lit.int .i64 n).wf = true) : -9223372036854775808 ≤ n ∧ n ≤ 9223372036854775807 := by
  have h1 : IntKind.i64.min = -9223372036854775808 := rfl
  have h2 : IntKind.i64.max = 9223372036854775807 := rfl
  simp only [Lit.wf, Bool.and_eq_true, decide_eq_true_eq, h1, h2] at h
  exact h
set_option maxRecDepth 100000 in
theorem open_call {base b0 : Nat} {r : Reach} {spare : Nat → Bool} {held : Bool} {v : Value} {d : DataW H} {p : List MemPlace}
    (hv : Value.okWide Tryd.prog W r b0 24 v) (h : DataW.Trod enc Tryd.prog W base spare held 24 v d p) : ∃ (x : TCall) (A : Option Addr) (n c : Nat), v = cval x A n c ∧ n = x.data.length ∧ IntsOk x ∧ Rd W W.heap.size A x.data := by
  obtain ⟨f0, f1, f2, f3, f4, f5, hu, ⟨t0, o0⟩, ⟨t1, o1⟩, ⟨t2, o2⟩, ⟨t3, o3⟩, ⟨t4, o4⟩, ⟨t5, o5⟩⟩ := callFields
  obtain ⟨cs0, rfl, _⟩ := okWide_struct hu hv
  obtain ⟨fuel, h⟩ := h
  obtain ⟨ys, n, _, _, hlen, hyl, hf⟩ := DataW.trod_struct hu h
  rw [cellsCall] at hlen
  have hcells : (Value.agg cs0).cells.toList = cs0.toList := rfl
  rw [hcells] at hlen hf
  obtain ⟨cs, rfl⟩ : ∃ cs : List Value, cs0 = cs.toArray := ⟨cs0.toList, by simp⟩
  simp only [List.toList_toArray] at hlen hf
  match cs, hlen with
  | [c0, c1, c2, c3, c4, c5], _ =>
    have g0 := hf 0 f0 rfl
    have g1 := hf 1 f1 rfl
    have g2 := hf 2 f2 rfl
    have g3 := hf 3 f3 rfl
    have g4 := hf 4 f4 rfl
    have g5 := hf 5 f5 rfl
    rw [t0, o0, cellsInt, List.getElem?_eq_getElem (by rw [hyl]; simp)] at g0
    rw [t1, o1, cellsStr, List.getElem?_eq_getElem (by rw [hyl]; simp)] at g1
    rw [t2, o2, cellsStr, List.getElem?_eq_getElem (by rw [hyl]; simp)] at g2
    rw [t3, o3, cellsInt, List.getElem?_eq_getElem (by rw [hyl]; simp)] at g3
    rw [t4, o4, cellsInt, List.getElem?_eq_getElem (by rw [hyl]; simp)] at g4
    rw [t5, o5, cellsBytes, List.getElem?_eq_getElem (by rw [hyl]; simp)] at g5
    obtain ⟨k0, e0, _, _⟩ := DataW.trod_int Tryd.underlying3 g0
    obtain ⟨s1, e1, _, _⟩ := DataW.trod_string Tryd.underlying9 g1
    obtain ⟨s2, e2, _, _⟩ := DataW.trod_string Tryd.underlying9 g2
    obtain ⟨k3, e3, _, w3⟩ := DataW.trod_int Tryd.underlying3 g3
    obtain ⟨k4, e4, _, w4⟩ := DataW.trod_int Tryd.underlying3 g4
    obtain ⟨A1, l, c, e5, _, _, hr⟩ := bytes_in g5
    simp only [List.drop, List.take, List.cons.injEq, and_true] at e0 e1 e2 e3 e4 e5
    subst e0 e1 e2 e3 e4 e5
    exact ⟨⟨k0, s1.data.toList, s2.data.toList, k3, k4, l⟩, A1, l.length, c, by simp only [cval, ba_data], rfl, ⟨i64_of_wf w3, i64_of_wf w4⟩, hr⟩
end
end Go.Proofs.YtklpebfkgdklmaaDoor
