/-
  What all laws of the tree share: calls that came in; a tree of the law's own; speaks, Great.
-/
import Derived.Test.YtlpjbgplimlcaaaGreatDoorDo
import Derived.Test.YtlpjbgplimlcaaaGreatDoorNdsW
namespace Go.Proofs.YtlpjbgplimlcaaaGreatDoor
open Go.RowKit Go.Maps

/-- A call's cells, as a list. -/
abbrev callL (c : TCall) (A : Option Addr) (c0 : Nat) : List Value := [.int .i64 c.kind, .string (ba c.path), .string (ba c.other), .int .i64 c.off, .int .i64 c.n, .slice A c.data.length c0]
/-- From the address A on, in blocks below B, lie the calls cs. -/
def CallsAt (w : World) (B : Nat) (A : Option Addr) (cs : List TCall) : Prop :=
  ∀ j c, cs[j]? = some c → ∃ b o A1 c1, A = some ⟨b, o, none⟩ ∧ b < B ∧ (∀ i u, (callL c A1 c1)[i]? = some u → w.cell? ⟨b, o + j * 6 + i, none⟩ = some u) ∧ Rd w B A1 c.data
theorem CallsAt.keep {w w' : World} {B : Nat} {A : Option Addr} {cs : List TCall} (h : CallsAt w B A cs) (k : KF w w') (hB : B ≤ w.heap.size) : CallsAt w' B A cs := fun j c hj => by
  obtain ⟨b, o, A1, c1, rfl, hb, hc, hr⟩ := h j c hj
  exact ⟨b, o, A1, c1, rfl, hb, fun i u hi => (k.cell (Nat.lt_of_lt_of_le hb hB)).trans (hc i u hi), hr.keepF k hB⟩

theorem CallsAt.more {w : World} {B B' : Nat} {A : Option Addr} {cs : List TCall} (h : CallsAt w B A cs) (hB : B ≤ B') : CallsAt w B' A cs := fun j c hj => by
  obtain ⟨b, o, A1, c1, rfl, hb, hc, hr⟩ := h j c hj
  exact ⟨b, o, A1, c1, rfl, by omega, hc, hr.more hB⟩
/-- Small enough to be looked at. -/
def Small (cs : List TCall) : Prop := cs.length ≤ 120 ∧ ∀ c ∈ cs, c.path.length ≤ 300 ∧ c.other.length ≤ 300 ∧ c.data.length ≤ 600

/-- What Great answers. -/
def Greats (cs : List TCall) (w : World) (e : Ending) (w' : World) : Prop := ∃ b, e = .returned (.bool b) ∧ KF w w' ∧ (b = false → Small cs)
set_option maxRecDepth 100000 in
set_option maxHeartbeats 4000000 in
theorem great_any (A : Option Addr) (cs : List TCall) (n c : Nat) (w : World) (hn : n = cs.length) (hr : CallsAt w w.heap.size A cs) :
    Calls Tryz.prog 9 #[.slice A n c] w (Greats cs w) := by
  have HN := Lib.hid hn
  have HR := Lib.hid hr
  clear hn hr
  by_cases h120 : (120 : Int) < (n : Int)
  · go_enter Tryz.func9, Tryz.ntmps9
    go_wp2_with fail
    go_ret
    exact ⟨true, rfl, KF.refl _, fun h => by cases h⟩
  · go_enter Tryz.func9, Tryz.ntmps9
    go_wp2_with fail
    go_loopg [10] n (fun g i wr => ∃ k : Nat, k ≤ n ∧ n - k ≤ g ∧ i = .int .i64 k ∧ KF w wr ∧ Hid (∀ j c, j < k → cs[j]? = some c → c.path.length ≤ 300 ∧ c.other.length ≤ 300 ∧ c.data.length ≤ 600))
    case atStart => exact ⟨0, by omega, by omega, rfl, KF.refl _, Lib.hid fun j c hj => absurd hj (Nat.not_lt_zero _)⟩
    case round =>
      obtain ⟨k, hk, hg, rfl, kr, HA⟩ := hrel
      rcases Nat.lt_or_ge k n with hlt | hge
      · have hlt' : (k : Int) < (n : Int) := by omega
        have q1 : k < cs.length := by rw [← HN.out]; exact hlt
        have hat : cs[k]? = some cs[k] := List.getElem?_eq_getElem q1
        obtain ⟨b, o, A1, c1, rfl, hb, hc, hrd⟩ := (HR.out.keep kr (Nat.le_refl _)) k _ hat
        have HT := Lib.hid hat
        clear hat
        generalize cs[k] = x at *
        have q0 : wr.cell? ⟨b, o + k * 6, none⟩ = some (.int .i64 x.kind) := hc 0 _ rfl
        have q1 : wr.cell? ⟨b, o + k * 6 + 1, none⟩ = some (.string (ba x.path)) := hc 1 _ rfl
        have q2 : wr.cell? ⟨b, o + k * 6 + 2, none⟩ = some (.string (ba x.other)) := hc 2 _ rfl
        have q3 : wr.cell? ⟨b, o + k * 6 + 3, none⟩ = some (.int .i64 x.off) := hc 3 _ rfl
        have q4 : wr.cell? ⟨b, o + k * 6 + 4, none⟩ = some (.int .i64 x.n) := hc 4 _ rfl
        have q5 : wr.cell? ⟨b, o + k * 6 + 5, none⟩ = some (.slice A1 x.data.length c1) := hc 5 _ rfl
        clear hc hrd
        have s1 : (ba x.path).size = x.path.length := ba_size _
        have s2 : (ba x.other).size = x.other.length := ba_size _
        generalize ba x.path = P at q1 s1
        generalize ba x.other = O at q2 s2
        have S1 := Lib.hid s1
        have S2 := Lib.hid s2
        clear s1 s2
        generalize hl : x.data.length = ld at *
        have S3 := Lib.hid hl
        clear hl
        by_cases h1 : (300 : Int) < (P.size : Int)
        · go_wp2_with fail
          go_ret
          exact ⟨true, rfl, kr.alloc _, fun h => by cases h⟩
        · by_cases h2 : (300 : Int) < (O.size : Int)
          · go_wp2_with fail
            go_ret
            exact ⟨true, rfl, kr.alloc _, fun h => by cases h⟩
          · by_cases h3 : (600 : Int) < (ld : Int)
            · go_wp2_with fail
              go_ret
              exact ⟨true, rfl, kr.alloc _, fun h => by cases h⟩
            · have HX := Lib.hid (show x.path.length ≤ 300 ∧ x.other.length ≤ 300 ∧ x.data.length ≤ 600 by rw [← S1.out, ← S2.out, S3.out]; omega)
              go_wp2_with fail
              go_roundg (n - (k + 1))
              case measure => omega
              case rel =>
                refine ⟨k + 1, by omega, by omega, by go_num, kr.alloc _, Lib.hid fun j c hj hc => ?_⟩
                rcases Nat.lt_or_ge j k with h | h
                · exact HA.out j c h hc
                · obtain rfl : j = k := by omega
                  rw [HT.out] at hc
                  injection hc with hc
                  subst hc
                  exact HX.out
      · obtain rfl : k = n := by omega
        have hlt' : ¬ (k : Int) < (k : Int) := by omega
        go_wp2_with fail
        go_ret
        refine ⟨false, rfl, kr, fun _ => ⟨by rw [← HN.out]; omega, fun c hc => ?_⟩⟩
        obtain ⟨j, hj, rfl⟩ := List.mem_iff_getElem.1 hc
        exact HA.out j _ (by rw [HN.out]; exact hj) (List.getElem?_eq_getElem hj)

/-- A tree of the law's own, in the world wr; w: the world in which the law began. -/
structure St8 (w wr : World) (L : Lay) (N : Nat) (t : Tr) : Prop where
  tree : TreeAt wr L N t
  good : Good t
  far : ∀ q, Foot L t q → w.heap.size ≤ q
  kf : KF w wr
  env : Env w
theorem St8.later {w wr w' : World} {L : Lay} {N : Nat} {t : Tr} (h : St8 w wr L N t) (k : KF wr w') : St8 w w' L N t := ⟨h.tree.far k, h.good, h.far, KF.trans h.kf k, h.env⟩
/-- What a call leaves. -/
structure Left (w wr : World) (L : Lay) (N : Nat) (t : Tr) (r : TAns × Tr) (w' : World) (L' : Lay) : Prop where
  st : St8 w w' L' (N + 1) r.2
  tb : L'.tb = L.tb
  keep : Keep (Foot L t) wr w'
  kf : KF w w'
  grow : ∀ q, Foot L' r.2 q → Foot L t q ∨ wr.heap.size ≤ q
/-- What the tree doesn't lie in stays, and stays free of it. -/
theorem Left.old {w wr w' : World} {L L' : Lay} {N : Nat} {t : Tr} {r : TAns × Tr} (S : Left w wr L N t r w' L') {b : Nat} (hb : b < wr.heap.size) (hn : ¬ Foot L t b) : ¬ Foot L' r.2 b ∧ b < w'.heap.size ∧ ∀ j, w'.cell? ⟨b, j, none⟩ = wr.cell? ⟨b, j, none⟩ :=
  ⟨fun h => by rcases S.grow b h with h | h; exact hn h; omega, Nat.lt_of_lt_of_le hb S.keep.size, fun j => Keep.cell S.keep (p := ⟨b, j, none⟩) hb hn⟩
theorem St8.free {w wr : World} {L : Lay} {N : Nat} {t : Tr} (h : St8 w wr L N t) {b : Nat} (hb : wr.heap.size ≤ b) : ¬ Foot L t b := fun hf => by have := h.tree.lt hf; omega
theorem St8.do_ {w wr : World} {L : Lay} {N : Nat} {t : Tr} (h : St8 w wr L N t) (hN : N ≤ 1000000) (c₁ : TCall) (A : Option Addr) (k c0 : Nat) (hc : CallIn wr w.heap.size c₁ A k c0) (hA : ∀ a : Addr, A = some a → 0 < c₁.data.length → a.block < w.heap.size) :
    Calls Tryz.prog 13 #[.pointer (some ⟨L.tb, 0, none⟩), callV c₁ A k c0] wr fun e w' =>
      ∃ A c A' c' L', e = .returned (.agg (ansC (doT t c₁).1 A c A' c')) ∧ Rd w' w'.heap.size A (doT t c₁).1.data ∧ Strs w' w'.heap.size A' ((doT t c₁).1.names.map ba) ∧ Hid (Left w wr L N t (doT t c₁) w' L') := by
  refine (do_any c₁ A k c0 w.heap.size wr L N t h.tree h.good (h.env.kept h.kf) hN hc h.kf.size fun a ha h0 hf => ?_).mono ?_
  · have := h.far _ hf
    have := hA a ha h0
    omega
  · rintro e w' ⟨A1, c1, A1', c1', rfl, hr, hs, h3, h4, L', h5, h6, h7, h8, h9, h10⟩
    have kk : KF w w' := Keep.trans h.kf h7 fun i hi hf => by have := h.far i hf; omega
    refine ⟨A1, c1, A1', c1', L', rfl, hr, hs, Lib.hid ⟨⟨h6, doT_good h.good c₁, fun q hq => ?_, kk, h.env⟩, h5, h7, kk, h8⟩⟩
    rcases h8 q hq with h' | h'
    · exact h.far q h'
    · exact Nat.le_trans h.kf.size h'
theorem St8.doReads {w wr : World} {L : Lay} {N : Nat} {t : Tr} (h : St8 w wr L N t) (hN : N ≤ 1000000) (c : TCall) (A : Option Addr) (k c0 B : Nat) (hc : CallIn wr B c A k c0) (hr : reads c.kind = true) :
    Calls Tryz.prog 13 #[.pointer (some ⟨L.tb, 0, none⟩), callV c A k c0] wr (Ansd (doT t c).1 wr) :=
  do_reads c A k c0 B wr L N t h.tree h.good (h.env.kept h.kf) hN hc hr
theorem St8.new {w wr : World} (k : KF w wr) (he : Env w) : Calls Tryz.prog 10 #[] wr fun e w' => ∃ L : Lay, e = .returned (.pointer (some ⟨L.tb, 0, none⟩)) ∧ Hid (St8 w w' L 1 newT) ∧ KF w w' ∧ KF wr w' :=
  (new_any wr).mono fun e w' ⟨L, h1, h2, h3, h4⟩ => ⟨L, h1, Lib.hid ⟨h2, good_new, fun q hq => Nat.le_trans k.size (h4 q hq), KF.trans k h3, he⟩, KF.trans k h3, h3⟩
theorem St8.nodes {w wr : World} {L : Lay} {N : Nat} {t : Tr} (h : St8 w wr L N t) (hN : N ≤ 1000000) : Calls Tryz.prog 16 #[.pointer (some ⟨L.tb, 0, none⟩)] wr (Nodes t wr) := nodes_any wr L N t h.tree h.good hN
end Go.Proofs.YtlpjbgplimlcaaaGreatDoor
