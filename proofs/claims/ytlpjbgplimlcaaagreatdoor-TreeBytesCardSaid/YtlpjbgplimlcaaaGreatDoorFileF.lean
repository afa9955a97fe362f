/-
  The tree with one file /f, of a law's own: each call that TreeBytes makes; a row of bytes as a text.
-/
import Derived.Test.YtlpjbgplimlcaaaGreatDoorRenames
import Derived.Test.YtlpjbgplimlcaaaGreatDoorTreeBytes
import Derived.Laws.IdiomStrings
namespace Go.Proofs.YtlpjbgplimlcaaaGreatDoor
open Go.RowKit Go.Maps

/-- 'string(b)', of bytes that are read. -/
theorem string_rd {w : World} {B : Nat} {a : Addr} {l : Txt} (c : Nat) (h : Rd w B (some a) l) : (convert 29 9 (.slice (some a) l.length c)).run Tryz.prog w = .ok (.string (ba l)) w :=
  run_convert_bytes_back w 29 9 5 a c l Tryz.underlying29 Tryz.underlying5 Tryz.underlying9 fun _ hj => h.at_ hj

/-- What lies beside a tree may change. -/
theorem St8.beside {S : Nat → Prop} {w wr w' : World} {L : Lay} {N : Nat} {t : Tr} (h : St8 w wr L N t) (k : Keep S wr w') (hS : ∀ b, Foot L t b → ¬ S b) (kf : KF w w') : St8 w w' L N t := ⟨h.tree.kept k hS, h.good, h.far, kf, h.env⟩

def fCall (kind off n : Int) (o d : Txt) : TCall := ⟨kind, [47, 102], o, off, n, d⟩
theorem fCall_val (kind off n : Int) : callV (fCall kind off n [] []) none 0 0 = .agg #[.int .i64 kind, .string ⟨#[47, 102]⟩, .string ⟨#[]⟩, .int .i64 off, .int .i64 n, .slice none 0 0] := rfl
theorem fCall_in {w : World} (kind off n : Int) (B : Nat) : CallIn w B (fCall kind off n [] []) none 0 0 := CallIn.nil rfl (show 2 ≤ 1000000 by omega) (show 0 ≤ 1000000 by omega)
theorem St8.make_ {w wr : World} {L : Lay} {N : Nat} (h : St8 w wr L N newT) (hN : N ≤ 1000000) :
    Calls Tryz.prog 13 #[.pointer (some ⟨L.tb, 0, none⟩), .agg #[.int .i64 3, .string ⟨#[47, 102]⟩, .string ⟨#[]⟩, .int .i64 0, .int .i64 0, .slice none 0 0]] wr fun e w' =>
      ∃ A c A' c' L', e = .returned (.agg (ansC okA A c A' c')) ∧ Hid (Left w wr L N newT (okA, fileT []) w' L') := by
  have := h.do_ hN (fCall 3 0 0 [] []) none 0 0 (fCall_in _ _ _ _) (fun a h => nomatch h)
  rw [fCall_val, make_f _ rfl rfl] at this
  refine this.mono ?_
  rintro e w' ⟨A, c, A', c', L', rfl, _, _, hl⟩
  exact ⟨A, c, A', c', L', rfl, hl⟩
theorem St8.cut_ {w wr : World} {L : Lay} {N : Nat} {b : Txt} (h : St8 w wr L N (fileT b)) (hN : N ≤ 1000000) (n : Nat) (hn : n ≤ 512) :
    Calls Tryz.prog 13 #[.pointer (some ⟨L.tb, 0, none⟩), .agg #[.int .i64 9, .string ⟨#[47, 102]⟩, .string ⟨#[]⟩, .int .i64 0, .int .i64 n, .slice none 0 0]] wr fun e w' =>
      ∃ A c A' c' L', e = .returned (.agg (ansC okA A c A' c')) ∧ Hid (Left w wr L N (fileT b) (okA, fileT (sized b n)) w' L') := by
  have := h.do_ hN (fCall 9 0 n [] []) none 0 0 (fCall_in _ _ _ _) (fun a h => nomatch h)
  rw [fCall_val, cut_f b _ rfl rfl (by show (0 : Int) ≤ n; omega) (by show (n : Int) ≤ 512; omega)] at this
  refine this.mono ?_
  rintro e w' ⟨A, c, A', c', L', rfl, _, _, hl⟩
  exact ⟨A, c, A', c', L', rfl, hl⟩
theorem St8.read_ {w wr : World} {L : Lay} {N : Nat} {b : Txt} (h : St8 w wr L N (fileT b)) (hN : N ≤ 1000000) (off n : Nat) (hn : n ≤ 256) :
    Calls Tryz.prog 13 #[.pointer (some ⟨L.tb, 0, none⟩), .agg #[.int .i64 8, .string ⟨#[47, 102]⟩, .string ⟨#[]⟩, .int .i64 off, .int .i64 n, .slice none 0 0]] wr (Ansd ⟨0, 0, 0, 0, (b.drop off).take n, []⟩ wr) := by
  have := h.doReads hN (fCall 8 off n [] []) none 0 0 wr.heap.size (fCall_in _ _ _ _) rfl
  rw [fCall_val, read_f b _ rfl rfl (by show (0 : Int) ≤ off; omega) (by show (0 : Int) ≤ n; omega) (by show (n : Int) ≤ 256; omega)] at this
  exact this
theorem St8.size_ {w wr : World} {L : Lay} {N : Nat} {b : Txt} (h : St8 w wr L N (fileT b)) (hN : N ≤ 1000000) :
    Calls Tryz.prog 13 #[.pointer (some ⟨L.tb, 0, none⟩), .agg #[.int .i64 10, .string ⟨#[47, 102]⟩, .string ⟨#[]⟩, .int .i64 0, .int .i64 0, .slice none 0 0]] wr (Ansd ⟨0, 2, b.length, 1, [], []⟩ wr) := by
  have := h.doReads hN (fCall 10 0 0 [] []) none 0 0 wr.heap.size (fCall_in _ _ _ _) rfl
  rw [fCall_val, stat_f b _ rfl rfl] at this
  exact this
theorem write_cases {b d : Txt} {off : Int} {R : TAns × Tr} (hR : R = if off < 0 ∨ 256 < d.length then (errA 1, fileT b) else if 512 < off.toNat + d.length then (errA 27, fileT b) else (okA, fileT (written b off.toNat d))) :
    (R.1.err ≠ 0 ∧ R.2 = fileT b) ∨ (R.1.err = 0 ∧ 0 ≤ off ∧ off.toNat + d.length ≤ 512 ∧ d.length ≤ 256 ∧ R.2 = fileT (written b off.toNat d)) := by
  by_cases h1 : off < 0 ∨ 256 < d.length
  · rw [if_pos h1] at hR
    subst hR
    exact .inl ⟨show (1 : Nat) ≠ 0 by omega, rfl⟩
  · rw [if_neg h1] at hR
    by_cases h2 : 512 < off.toNat + d.length
    · rw [if_pos h2] at hR
      subst hR
      exact .inl ⟨show (27 : Nat) ≠ 0 by omega, rfl⟩
    · rw [if_neg h2] at hR
      subst hR
      exact .inr ⟨rfl, by omega, by omega, by omega, rfl⟩
/-- A write that came in: its kind and path are the law's. -/
theorem St8.write_ {w wr : World} {L : Lay} {N : Nat} {b : Txt} (h : St8 w wr L N (fileT b)) (hN : N ≤ 1000000) (x : TCall) (A : Option Addr) (c : Nat) (ho : x.other.length ≤ 1000000) (hd : x.data.length ≤ 1000000) (hr : Rd wr w.heap.size A x.data) :
    Calls Tryz.prog 13 #[.pointer (some ⟨L.tb, 0, none⟩), .agg #[.int .i64 7, .string ⟨#[47, 102]⟩, .string (ba x.other), .int .i64 x.off, .int .i64 x.n, .slice A x.data.length c]] wr fun e w' =>
      ∃ A' c' A'' c'' L' r, e = .returned (.agg (ansC r.1 A' c' A'' c'')) ∧ Hid (Left w wr L N (fileT b) r w' L') ∧
        ((r.1.err ≠ 0 ∧ r.2 = fileT b) ∨ (r.1.err = 0 ∧ 0 ≤ x.off ∧ x.off.toNat + x.data.length ≤ 512 ∧ x.data.length ≤ 256 ∧ r.2 = fileT (written b x.off.toNat x.data))) := by
  have := h.do_ hN (fCall 7 x.off x.n x.other x.data) A x.data.length c ⟨rfl, ⟨hd, show 2 ≤ 1000000 by omega, ho⟩, hr⟩ (fun a ha h0 => by
    obtain ⟨a', h1, h2⟩ := hr.some_of h0
    rw [h1] at ha
    injection ha with ha
    rw [← ha]
    exact h2)
  refine this.mono ?_
  rintro e w' ⟨A', c', A'', c'', L', rfl, _, _, hl⟩
  exact ⟨A', c', A'', c'', L', _, rfl, hl, write_cases (write_f b _ rfl rfl)⟩
end Go.Proofs.YtlpjbgplimlcaaaGreatDoor
