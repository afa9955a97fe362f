/-
  copy, between rows of bytes; max of two.
-/
import Derived.Test.YtlpjbgplimlcaaaGreatDoorText
import Derived.Test.YtlpjbgplimlcaaaGreatDoorTreeDo
import Derived.Laws.CopyOwn
namespace Go.Proofs.YtlpjbgplimlcaaaGreatDoor
open Go.RowKit

theorem run_copy_u8 {P : Program} {T E : TypeId} (U : U8 P T E) (sT ty : TypeId) (w : World) (g n c off : Nat) (l m : Txt) (hown : Own E w (.slice (some ⟨g, 0, none⟩) n c) l) (dp : Option Addr) (dCap : Nat) (hoff : off ≤ n)
    (B : Nat) (A : Option Addr) (k kc : Nat) (hk : k = m.length) (hr : Rd w B A m) (q : Nat) (hq : q = min k (n - off)) (hpos : 0 < q → dp = some ⟨g, off, none⟩) :
    ∃ w', (Builtin.copy_ #[T, sT] ty #[.slice dp (n - off) dCap, .slice A k kc]).run P w = .ok (goInt (q : Int)) w' ∧ Own E w' (.slice (some ⟨g, 0, none⟩) n c) (over l off (m.take (n - off))) ∧ Keep (fun b => b = g) w w' := by
  obtain ⟨i, hi, hz, hs, hby⟩ := U.info
  have hsz : (P.info? E).map (·.size) = some 1 := by rw [hi]; simp [hs]
  have hln := hown.len
  have hmin : q = (m.take (n - off)).length := by rw [List.length_take, hq, hk]; omega
  rcases Nat.eq_zero_or_pos q with h0 | hp
  · have he : m.take (n - off) = [] := List.eq_nil_of_length_eq_zero (by rw [← hmin]; exact h0)
    refine ⟨w, ?_, ?_, Keep.refl _ w⟩
    · rw [run_copy_none w T sT ty E dp A (n - off) dCap k kc U.under hsz (show Nat.min k (n - off) = 0 from hq.symm.trans h0), h0]
      rfl
    · rw [he]
      unfold over
      simpa using hown
  · obtain rfl := hpos hp
    obtain ⟨ad, rfl, _⟩ := hr.some_of (by omega)
    rcases hown.2 with ⟨h, _⟩ | ⟨g', cap, cur, hv, hb, hh, hnc, hcm, hcs, ht⟩
    · cases h
    · injection hv with hv1 hv2 hv3
      injection hv1 with hv1
      injection hv1 with hv1
      subst hv1 hv3
      simp only [Nat.mul_one] at hcs ht
      have hcl : (u8s (m.take (n - off))).length = q := by rw [u8s_length, hmin]
      have hrun := run_copy_row (P := P) w T sT ty E g off (n - off) dCap ad k kc cur E (u8s (m.take (n - off))) U.under hsz hh (hcl.trans hq) (fun j v hj => by
        simp only [u8s, List.getElem?_map, Option.map_eq_some_iff] at hj
        obtain ⟨b, hb, rfl⟩ := hj
        obtain ⟨a, ha, _, hc⟩ := hr j b (by
          rw [List.getElem?_take] at hb
          split at hb
          · exact hb
          · cases hb)
        injection ha with ha
        subst ha
        exact hc) (by rw [hcl]; omega) (u8s_one _)
      rw [hcl] at hrun
      refine ⟨_, hrun, ⟨?_, .inr ⟨g, c, _, ?_, Nat.zero_le _, setRow_heap w g cur _ E _ hh, ?_, hcm, ?_, ?_⟩⟩, ?_⟩
      · rw [u8s_length, Nat.mul_one]
      · rw [over_length (by rw [← hmin]; omega), ← hln]
      · rw [over_length (by rw [← hmin]; omega), ← hln]; omega
      · simp
        omega
      · rw [over_length (by rw [← hmin]; omega), ← hln]
        simp only [Nat.mul_one]
        have hl : u8s l = cur.toList.take n := by rw [← ht, hln]
        unfold over
        rw [u8s_append, u8s_append]
        have e1 : u8s (l.take off) = cur.toList.take off := by
          have : u8s (l.take off) = (u8s l).take off := by simp [u8s, List.map_take]
          rw [this, hl, List.take_take]
          congr 1
          omega
        have e2 : u8s (l.drop (off + (m.take (n - off)).length)) = (cur.toList.take n).drop (off + q) := by
          rw [← hmin, ← hl]
          simp [u8s, List.map_drop]
        rw [e1, e2]
        have hX : (cur.toList.take off ++ u8s (m.take (n - off))).length = off + q := by
          rw [List.length_append, hcl, List.length_take, Array.length_toList]
          omega
        rw [List.take_append, hX, List.take_of_length_le (by rw [hX]; omega), List.drop_take]
      · refine ⟨rfl, rfl, rfl, by simp [World.setRow], fun q _ hq => setRow_other w g q _ hq⟩
end Go.Proofs.YtlpjbgplimlcaaaGreatDoor
