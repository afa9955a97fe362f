/-
  WALKS of package octet, the writer's side: size, slices.Clone, Byte, Number, Out.
-/
import Derived.Test.YtklpebfkgdklmabDoorRows
import Derived.Test.YtklpebfkgdklmabDoorBase
import Derived.Lib.SliceRun
namespace Go.Proofs.YtklpebfkgdklmabDoor
open Go.RowKit

theorem bytesT : U8 Tryd.prog 24 5 := ⟨Tryd.underlying24, info_parts (by kernel_rfl)⟩

/-- The size that a number has. -/
def sz (n : Int) : Nat := (min (max n 0) 8).toNat
theorem sz_le (n : Int) : sz n ≤ 8 := by unfold sz; omega
theorem ret_int {k : IntKind} {a b : Int} (h : a = b) : Ending.returned (.int k a) = .returned (.int k b) := by rw [h]
theorem size_any (n : Int) (w : World) : Calls Tryd.prog 32 #[.int .i64 n] w fun e w' => e = .returned (.int .i64 (sz n : Nat)) ∧ w = w' := by
  go_enter Tryd.func32, Tryd.ntmps32
  go_wp2
  all_goals
    go_ret
    exact ⟨ret_int (by unfold sz; omega), rfl⟩

/-- What a call leaves that gives bytes in a new row: n of them, l. -/
def Fresh (w : World) (n : Nat) (l : List UInt8) (e : Ending) (w' : World) : Prop :=
  ∃ A' c', e = .returned (.slice A' n c') ∧ Own 5 w' (.slice A' n c') l ∧ NB w (.slice A' n c') ∧ Keep (fun _ => False) w w'
theorem clone_any (A : Option Addr) (l : List UInt8) (n c : Nat) (w : World) (hl : n = l.length) (hb : l.length ≤ 70368744177664) (B : Nat) (hr : Rd w B A l) (hB : B ≤ w.heap.size) :
    Calls Tryd.prog 46 #[.slice A n c] w (Fresh w n l) := by
  subst hl
  have hq := fun (w : World) (a : Option Addr) (n c n' c' : Nat) => Lib.run_eql_slice_nil (P := Tryd.prog) w 24 5 a n c n' c' Tryd.underlying24
  rcases A with _ | a
  · have : l = [] := by
      rcases l with _ | ⟨b, l⟩
      · rfl
      · obtain ⟨a, h, _⟩ := hr 0 b rfl
        cases h
    subst this
    go_enter Tryd.func46, Tryd.ntmps46
    go_wp2
    go_ret
    exact ⟨none, 0, rfl, Own.nil _ _, NB.nil _, Keep.refl _ _⟩
  · go_enter Tryd.func46, Tryd.ntmps46
    go_wp2_with (at_builtin; refine wpList_append_u8 _ rfl _ _ _ rfl bytesT (.slice (some ⟨w.heap.size, 0, none⟩) 0 0) [] rfl (Own.lit 5 _ [] (by decide)) B (some a) _ c l rfl rfl (hr.alloc hB _) (by simp; omega) ?_; intro A4 n4 c4 w4 o4 e4 h4 m4 g4 f4)
    go_ret
    simp only [List.nil_append] at o4
    obtain rfl : n4 = l.length := o4.len
    exact ⟨A4, c4, rfl, o4, (NB.new (Nat.le_refl _) 0 0).next (by simp) f4, ((Keep.refl (fun _ => False) w).alloc (.cells #[] 5)).own g4 (NB.new (Nat.le_refl _) 0 0)⟩

/-- A writer lies in block g; it has put l. -/
structure Wr (w : World) (g : Nat) (v : Value) (l : List UInt8) : Prop where
  block : w.heap[g]? = some (.cells #[v] 64 (0, 0))
  own : Own 5 w v l
theorem Wr.ne_ {w : World} {g : Nat} {v : Value} {l : List UInt8} (h : Wr w g v l) : v.ownBlock ≠ some g := h.own.ne_ h.block (by decide)
theorem Wr.lt {w : World} {g : Nat} {v : Value} {l : List UInt8} (h : Wr w g v l) : g < w.heap.size := lt_of_block h.block
theorem Wr.kept {S : Nat → Prop} {w w' : World} {g : Nat} {v : Value} {l : List UInt8} (h : Wr w g v l) (hk : Keep S w w') (hg : ¬ S g) (hs : ∀ k, v.ownBlock = some k → ¬ S k) : Wr w' g v l :=
  ⟨(hk.block g h.lt hg).trans h.block, h.own.kept hk hs⟩
/-- What a call on a writer touches: its own two blocks. -/
def WS (g : Nat) (v : Value) : Nat → Prop := fun k => k = g ∨ v.ownBlock = some k
/-- What a call on a writer leaves. -/
def Put (w : World) (g : Nat) (v : Value) (l : List UInt8) (e : Ending) (w' : World) : Prop :=
  e = .returned (.tuple #[]) ∧ ∃ v', Wr w' g v' l ∧ Keep (WS g v) w w' ∧ (v'.ownBlock = v.ownBlock ∨ ∃ k, v'.ownBlock = some k ∧ w.heap.size ≤ k)

theorem ws_sub {w : World} {g : Nat} {v v' : Value} (hf : v'.ownBlock = v.ownBlock ∨ ∃ k, v'.ownBlock = some k ∧ w.heap.size ≤ k) : ∀ i, i < w.heap.size → WS g v' i → WS g v i := by
  rintro i hi (h | h)
  · exact .inl h
  · rcases hf with hf | ⟨k, hk, hle⟩
    · exact .inr (hf ▸ h)
    · rw [hk] at h
      injection h with h
      omega
theorem nb_trans {w wr : World} {v v' v1 : Value} (hs : w.heap.size ≤ wr.heap.size) (hf : v'.ownBlock = v.ownBlock ∨ ∃ k, v'.ownBlock = some k ∧ w.heap.size ≤ k) (hf1 : v1.ownBlock = v'.ownBlock ∨ ∃ k, v1.ownBlock = some k ∧ wr.heap.size ≤ k) :
    v1.ownBlock = v.ownBlock ∨ ∃ k, v1.ownBlock = some k ∧ w.heap.size ≤ k := by
  rcases hf1 with h | ⟨k, hk, hle⟩
  · rw [h]
    exact hf
  · exact .inr ⟨k, hk, by omega⟩
theorem byte_any (g : Nat) (v : Value) (l : List UInt8) (b : UInt8) (w : World) (h : Wr w g v l) (hb : l.length ≤ 70368744177600) :
    Calls Tryd.prog 19 #[.pointer (some ⟨g, 0, none⟩), .int .u8 b.toNat] w (Put w g v (l ++ [b])) := by
  have hc := cell_of_one h.block
  have hf := free_of_one h.block
  have hlt := h.lt
  have hne := h.ne_
  go_enter Tryd.func19, Tryd.ntmps19
  go_wp2_with (at_builtin; refine wpList_append_u8 _ rfl _ _ _ rfl bytesT v l rfl (h.own.alloc _) (w.heap.size + 1) (some ⟨w.heap.size, 0, none⟩) 1 1 [b] rfl rfl (Rd.lit w 5 (0, 0) [b] _ rfl) (by simp; omega) ?_; intro A4 n4 c4 w4 o4 e4 h4 m4 g4 f4; have k4 := ((Keep.refl (fun k => v.ownBlock = some k) w).alloc (.cells #[.int .u8 b.toNat] 5)).grown g4 (fun _ e _ => e); have b4 := Lib.hid ((k4.block g hlt hne).trans h.block); have c4' := cell_of_one b4.out; have f4' := free_of_one b4.out)
  go_end0
  have hne4 : (Value.slice A4 n4 c4).ownBlock ≠ some g := o4.ne_ b4.out (by decide)
  refine ⟨rfl, _, ⟨one_setCell b4.out, o4.kept ((Keep.refl (fun i => i = g) w4).setCell (.inr rfl) _) (by rintro k hk rfl; exact hne4 hk)⟩, (k4.mono (fun _ _ h => .inr h)).setCell (.inr (.inl rfl)) _, ?_⟩
  rcases f4 with f4 | f4
  · exact .inl f4
  · exact .inr ⟨_, f4, by simp⟩

/-- The bytes of a number of n bytes, the greatest weight first. -/
def be (v n : Nat) : List UInt8 := (List.range n).map fun i => UInt8.ofNat (v / 2 ^ (8 * (n - 1 - i)))
theorem be_length (v n : Nat) : (be v n).length = n := by simp [be]
theorem be_step (v n k : Nat) (hk : k < n) : (be v n).take (k + 1) = (be v n).take k ++ [UInt8.ofNat (v / 2 ^ (8 * (n - 1 - k)))] := by
  rw [List.take_succ_eq_append_getElem (by rw [be_length]; exact hk)]
  simp [be]
theorem be_byte (x e : Nat) : (x : Int) / 2 ^ e % 256 = ((UInt8.ofNat (x / 2 ^ e)).toNat : Int) := by
  rw [UInt8.toNat_ofNat']
  have : ((2 : Int) ^ e) = ((2 ^ e : Nat) : Int) := by simp
  rw [this]
  omega
theorem number_any (g : Nat) (v : Value) (l : List UInt8) (x : Nat) (n : Int) (w : World) (h : Wr w g v l) (_hx : x < 18446744073709551616) (hb : l.length ≤ 70368744177000) :
    Calls Tryd.prog 20 #[.pointer (some ⟨g, 0, none⟩), .int .u64 x, .int .i64 n] w (Put w g v (l ++ be x (sz n))) := by
  have hs := Lib.hid (size_any n w)
  have hz := sz_le n
  generalize sz n = m at *
  go_enter Tryd.func20, Tryd.ntmps20
  go_wp2_with (go_at_call 32; refine hs.out.mono ?_; rintro e w' ⟨rfl, rfl⟩)
  go_loopw [10] (fun i wr => ∃ (k : Nat) (v' : Value), k ≤ m ∧ i = .int .i64 k ∧ Wr wr g v' (l ++ (be x m).take k) ∧ Keep (WS g v) w wr ∧ (v'.ownBlock = v.ownBlock ∨ ∃ k, v'.ownBlock = some k ∧ w.heap.size ≤ k)) (fun i _ => m - (intOf i).toNat)
  case atStart => exact ⟨0, v, Nat.zero_le _, rfl, by simpa using h, Keep.refl _ _, .inl rfl⟩
  case round =>
    obtain ⟨k, v', hk, rfl, hw, hkw, hf⟩ := hrel
    by_cases hlt : k < m
    · go_wp2_with fail
      rw [be_byte]
      refine (byte_any g v' _ _ wr hw (by simp; omega)).mono ?_
      rintro e w1 ⟨rfl, v1, hw1, hk1, hf1⟩
      have HS := Lib.hid (be_step x m k hlt)
      go_wp2
      go_roundw
      case rel => exact ⟨k + 1, v1, by omega, by go_num, by rw [HS.out, ← List.append_assoc]; exact hw1, hkw.trans hk1 (ws_sub hf), nb_trans hkw.size hf hf1⟩
      case measure => simp [intOf]; omega
    · obtain rfl : k = m := by omega
      go_wp2
      go_end0
      rw [List.take_of_length_le (by rw [be_length]; exact Nat.le_refl _)] at hw
      exact ⟨rfl, v', hw, hkw, hf⟩

theorem out_any (g : Nat) (v : Value) (l : List UInt8) (w : World) (h : Wr w g v l) (hb : l.length ≤ 70368744177664) :
    Calls Tryd.prog 35 #[.pointer (some ⟨g, 0, none⟩)] w (Fresh w l.length l) := by
  obtain ⟨A, c, rfl, hlc, hm, hr, _⟩ := h.own.shape
  have hc := cell_of_one h.block
  have H := Lib.hid (clone_any A l l.length c w rfl hb w.heap.size hr (Nat.le_refl _))
  go_enter Tryd.func35, Tryd.ntmps35
  go_wp2_with fail
  refine H.out.mono ?_
  rintro e w1 ⟨A1, c1, rfl, ho, hn, hk⟩
  go_wp2
  go_ret
  exact ⟨A1, c1, rfl, ho, hn, hk⟩
end Go.Proofs.YtklpebfkgdklmabDoor
