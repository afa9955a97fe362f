/-
  What all laws of the tree share: calls that came in; a tree of the law's own; speaks, Great.
  Of a question about a path; sums over the nodes.
  How much a tree's nodes hold at most.
  The program's tree and the document's, side by side, with a call that is done to both.
  speaks: the document's example.
  Closed facts of this seat; a row of calls that came in.
-/
import Derived.Test.YtlkiaghpdjbfeaaGreatDoorPhDo
import Derived.Test.YtlkiaghpdjbfeaaGreatDoorPhNdsW
import Derived.Test.YtlkiaghpdjbfeaaGreatDoorPk5
import Derived.Test.YtlkiaghpdjbfeaaGreatDoorPk3
namespace Go.Proofs.YtlkiaghpdjbfeaaGreatDoor
open Go.RowKit Go.Maps

/-- A call's cells, as a list. -/
abbrev callL (c : TCall) (A : Option Addr) (c0 : Nat) : List Value := [.int .i64 c.kind, .string (ba c.path), .string (ba c.other), .int .i64 c.off, .int .i64 c.n, .slice A c.data.length c0]
/-- From the address A on, in blocks below B, lie the calls cs. -/
def CallsAt (w : World) (B : Nat) (A : Option Addr) (cs : List TCall) : Prop :=
  ∀ j c, cs[j]? = some c → ∃ b o A1 c1, A = some ⟨b, o, none⟩ ∧ b < B ∧ (∀ i u, (callL c A1 c1)[i]? = some u → w.cell? ⟨b, o + j * 6 + i, none⟩ = some u) ∧ Rd w B A1 c.data
theorem CallsAt.keep {w w' : World} {B : Nat} {A : Option Addr} {cs : List TCall} (h : CallsAt w B A cs) (k : KF w w') (hB : B ≤ w.heap.size) : CallsAt w' B A cs := fun j c hj => by
  obtain ⟨b, o, A1, c1, rfl, hb, hc, hr⟩ := h j c hj
  exact ⟨b, o, A1, c1, rfl, hb, fun i u hi => (k.cell (Nat.lt_of_lt_of_le hb hB)).trans (hc i u hi), hr.keepF k hB⟩

theorem CallsAt.more {w : World} {B B' : Nat} {A : Option Addr} {cs : List TCall} (h : CallsAt w B A cs) (hB : B ≤ B') : CallsAt w B' A cs := fun j c hj => by
  obtain ⟨b, o, A1, c1, rfl, hb, hc, hr⟩ := h j c hj
  exact ⟨b, o, A1, c1, rfl, by omega, hc, hr.more hB⟩
/-- SmallC enough to be looked at. -/
def SmallC (cs : List TCall) : Prop := cs.length ≤ 120 ∧ ∀ c ∈ cs, c.path.length ≤ 300 ∧ c.other.length ≤ 300 ∧ c.data.length ≤ 600

/-- What Great answers. -/
def Greats (cs : List TCall) (w : World) (e : Ending) (w' : World) : Prop := ∃ b, e = .returned (.bool b) ∧ KF w w' ∧ (b = false → SmallC cs)
set_option maxRecDepth 100000 in
set_option maxHeartbeats 4000000 in
theorem great_any (A : Option Addr) (cs : List TCall) (n c : Nat) (w : World) (hn : n = cs.length) (hr : CallsAt w w.heap.size A cs) :
    Calls Tryz.prog 7 #[.slice A n c] w (Greats cs w) := by
  have HN := Lib.hid hn
  have HR := Lib.hid hr
  clear hn hr
  by_cases h120 : (120 : Int) < (n : Int)
  · go_enter Tryz.func7, Tryz.ntmps7
    go_wp2_with fail
    go_ret
    exact ⟨true, rfl, KF.refl _, fun h => by cases h⟩
  · go_enter Tryz.func7, Tryz.ntmps7
    go_wp2_with fail
    go_loopg [10] n (fun g i wr => ∃ k : Nat, k ≤ n ∧ n - k ≤ g ∧ i = .int .i64 k ∧ KF w wr ∧ Hid (∀ j c, j < k → cs[j]? = some c → c.path.length ≤ 300 ∧ c.other.length ≤ 300 ∧ c.data.length ≤ 600))
    case atStart => exact ⟨0, by omega, by omega, rfl, KF.refl _, Lib.hid fun j c hj => absurd hj (Nat.not_lt_zero _)⟩
    case round =>
      obtain ⟨k, hk, hg, rfl, kr, HA⟩ := hrel
      rcases Nat.lt_or_ge k n with hlt | hge
      · have hlt' : (k : Int) < (n : Int) := by omega
        have q1 : k < cs.length := by rw [← HN.out]; exact hlt
        have hat : cs[k]? = some cs[k] := List.getElem?_eq_getElem q1
        obtain ⟨b, o, A1, c1, rfl, hb, hc, hrd⟩ := (HR.out.keep kr (Nat.le_refl _)) k _ hat
        have HT := Lib.hid hat
        clear hat
        generalize cs[k] = x at *
        have q0 : wr.cell? ⟨b, o + k * 6, none⟩ = some (.int .i64 x.kind) := hc 0 _ rfl
        have q1 : wr.cell? ⟨b, o + k * 6 + 1, none⟩ = some (.string (ba x.path)) := hc 1 _ rfl
        have q2 : wr.cell? ⟨b, o + k * 6 + 2, none⟩ = some (.string (ba x.other)) := hc 2 _ rfl
        have q3 : wr.cell? ⟨b, o + k * 6 + 3, none⟩ = some (.int .i64 x.off) := hc 3 _ rfl
        have q4 : wr.cell? ⟨b, o + k * 6 + 4, none⟩ = some (.int .i64 x.n) := hc 4 _ rfl
        have q5 : wr.cell? ⟨b, o + k * 6 + 5, none⟩ = some (.slice A1 x.data.length c1) := hc 5 _ rfl
        clear hc hrd
        have s1 : (ba x.path).size = x.path.length := ba_size _
        have s2 : (ba x.other).size = x.other.length := ba_size _
        generalize ba x.path = P at q1 s1
        generalize ba x.other = O at q2 s2
        have S1 := Lib.hid s1
        have S2 := Lib.hid s2
        clear s1 s2
        generalize hl : x.data.length = ld at *
        have S3 := Lib.hid hl
        clear hl
        by_cases h1 : (300 : Int) < (P.size : Int)
        · go_wp2_with fail
          go_ret
          exact ⟨true, rfl, kr.alloc _, fun h => by cases h⟩
        · by_cases h2 : (300 : Int) < (O.size : Int)
          · go_wp2_with fail
            go_ret
            exact ⟨true, rfl, kr.alloc _, fun h => by cases h⟩
          · by_cases h3 : (600 : Int) < (ld : Int)
            · go_wp2_with fail
              go_ret
              exact ⟨true, rfl, kr.alloc _, fun h => by cases h⟩
            · have HX := Lib.hid (show x.path.length ≤ 300 ∧ x.other.length ≤ 300 ∧ x.data.length ≤ 600 by rw [← S1.out, ← S2.out, S3.out]; omega)
              go_wp2_with fail
              go_roundg (n - (k + 1))
              case measure => omega
              case rel =>
                refine ⟨k + 1, by omega, by omega, by go_num, kr.alloc _, Lib.hid fun j c hj hc => ?_⟩
                rcases Nat.lt_or_ge j k with h | h
                · exact HA.out j c h hc
                · obtain rfl : j = k := by omega
                  rw [HT.out] at hc
                  injection hc with hc
                  subst hc
                  exact HX.out
      · obtain rfl : k = n := by omega
        have hlt' : ¬ (k : Int) < (k : Int) := by omega
        go_wp2_with fail
        go_ret
        refine ⟨false, rfl, kr, fun _ => ⟨by rw [← HN.out]; omega, fun c hc => ?_⟩⟩
        obtain ⟨j, hj, rfl⟩ := List.mem_iff_getElem.1 hc
        exact HA.out j _ (by rw [HN.out]; exact hj) (List.getElem?_eq_getElem hj)

/-- A tree of the law's own, in the world wr; w: the world in which the law began. -/
structure St8 (w wr : World) (L : Lay) (N : Nat) (t : Tr) : Prop where
  tree : TreeAt wr L N t
  good : Good t
  far : ∀ q, Foot L t q → w.heap.size ≤ q
  kf : KF w wr
  env : Env w
theorem St8.later {w wr w' : World} {L : Lay} {N : Nat} {t : Tr} (h : St8 w wr L N t) (k : KF wr w') : St8 w w' L N t := ⟨h.tree.far k, h.good, h.far, KF.trans h.kf k, h.env⟩
/-- What a call leaves. -/
structure Left (w wr : World) (L : Lay) (N : Nat) (t : Tr) (r : TAns × Tr) (w' : World) (L' : Lay) : Prop where
  st : St8 w w' L' (N + 1) r.2
  tb : L'.tb = L.tb
  keep : Keep (Foot L t) wr w'
  kf : KF w w'
  grow : ∀ q, Foot L' r.2 q → Foot L t q ∨ wr.heap.size ≤ q
/-- What the tree doesn't lie in stays, and stays free of it. -/
theorem Left.old {w wr w' : World} {L L' : Lay} {N : Nat} {t : Tr} {r : TAns × Tr} (S : Left w wr L N t r w' L') {b : Nat} (hb : b < wr.heap.size) (hn : ¬ Foot L t b) : ¬ Foot L' r.2 b ∧ b < w'.heap.size ∧ ∀ j, w'.cell? ⟨b, j, none⟩ = wr.cell? ⟨b, j, none⟩ :=
  ⟨fun h => by rcases S.grow b h with h | h; exact hn h; omega, Nat.lt_of_lt_of_le hb S.keep.size, fun j => Keep.cell S.keep (p := ⟨b, j, none⟩) hb hn⟩
theorem St8.free {w wr : World} {L : Lay} {N : Nat} {t : Tr} (h : St8 w wr L N t) {b : Nat} (hb : wr.heap.size ≤ b) : ¬ Foot L t b := fun hf => by have := h.tree.lt hf; omega
theorem St8.do_ {w wr : World} {L : Lay} {N : Nat} {t : Tr} (h : St8 w wr L N t) (hN : N ≤ 1000000) (c₁ : TCall) (A : Option Addr) (k c0 : Nat) (hc : CallIn wr w.heap.size c₁ A k c0) (hA : ∀ a : Addr, A = some a → 0 < c₁.data.length → a.block < w.heap.size) :
    Calls Tryz.prog 11 #[.pointer (some ⟨L.tb, 0, none⟩), callV c₁ A k c0] wr fun e w' =>
      ∃ A c A' c' L', e = .returned (.agg (ansC (doT t c₁).1 A c A' c')) ∧ Rd w' w'.heap.size A (doT t c₁).1.data ∧ Strs w' w'.heap.size A' ((doT t c₁).1.names.map ba) ∧ Hid (Left w wr L N t (doT t c₁) w' L') := by
  refine (do_any c₁ A k c0 w.heap.size wr L N t h.tree h.good (h.env.kept h.kf) hN hc h.kf.size fun a ha h0 hf => ?_).mono ?_
  · have := h.far _ hf
    have := hA a ha h0
    omega
  · rintro e w' ⟨A1, c1, A1', c1', rfl, hr, hs, h3, h4, L', h5, h6, h7, h8, h9, h10⟩
    have kk : KF w w' := Keep.trans h.kf h7 fun i hi hf => by have := h.far i hf; omega
    refine ⟨A1, c1, A1', c1', L', rfl, hr, hs, Lib.hid ⟨⟨h6, doT_good h.good c₁, fun q hq => ?_, kk, h.env⟩, h5, h7, kk, h8⟩⟩
    rcases h8 q hq with h' | h'
    · exact h.far q h'
    · exact Nat.le_trans h.kf.size h'
theorem St8.doReads {w wr : World} {L : Lay} {N : Nat} {t : Tr} (h : St8 w wr L N t) (hN : N ≤ 1000000) (c : TCall) (A : Option Addr) (k c0 B : Nat) (hc : CallIn wr B c A k c0) (hr : reads c.kind = true) :
    Calls Tryz.prog 11 #[.pointer (some ⟨L.tb, 0, none⟩), callV c A k c0] wr (Ansd (doT t c).1 wr) :=
  do_reads c A k c0 B wr L N t h.tree h.good (h.env.kept h.kf) hN hc hr
theorem St8.new {w wr : World} (k : KF w wr) (he : Env w) : Calls Tryz.prog 8 #[] wr fun e w' => ∃ L : Lay, e = .returned (.pointer (some ⟨L.tb, 0, none⟩)) ∧ Hid (St8 w w' L 1 newT) ∧ KF w w' ∧ KF wr w' :=
  (new_any wr).mono fun _e _w' ⟨L, h1, h2, h3, h4⟩ => ⟨L, h1, Lib.hid ⟨h2, good_new, fun q hq => Nat.le_trans k.size (h4 q hq), KF.trans k h3, he⟩, KF.trans k h3, h3⟩
theorem St8.nodes {w wr : World} {L : Lay} {N : Nat} {t : Tr} (h : St8 w wr L N t) (hN : N ≤ 1000000) : Calls Tryz.prog 14 #[.pointer (some ⟨L.tb, 0, none⟩)] wr (Nodes t wr) := nodes_any wr L N t h.tree h.good hN
end Go.Proofs.YtlkiaghpdjbfeaaGreatDoor

namespace Go.Proofs.YtlkiaghpdjbfeaaGreatDoor
open Go.RowKit Go.Maps

theorem walk_err {t : Tr} : ∀ {ns : List Txt} {n k : Nat}, walk t n ns = .error k → k ≠ 0
  | [], n, k, h => by rw [walk] at h; cases h
  | x :: r, n, k, h => by
    rw [walk] at h
    split at h
    · injection h with h; omega
    · split at h
      · injection h with h; omega
      · exact walk_err h
theorem find_err {t : Tr} {s : Txt} {k : Nat} (h : find t s = .error k) : k ≠ 0 := by
  unfold find at h
  split at h
  · injection h with h; omega
  · exact walk_err h
theorem Good.found {t : Tr} (g : Good t) {s : Txt} {n : Nat} (h : find t s = .ok n) : (t n).kind ≠ 0 := by
  unfold find at h
  split at h
  · cases h
  · exact g.walked (by rw [g.root.1]; omega) h
/-- What is said of a path by the two questions. -/
theorem ask_two {t : Tr} (g : Good t) (s : Txt) :
    (∃ k, k ≠ 0 ∧ (doStat t s).1 = errA k ∧ (doList t s).1 = errA k) ∨
    ((doStat t s).1.err = 0 ∧ (doStat t s).1.kind = 1 ∧ (doList t s).1.err = 0 ∧ (doList t s).1.names.length = (doStat t s).1.size) ∨
    ((doStat t s).1.err = 0 ∧ (doStat t s).1.kind = 2 ∧ (doList t s).1.err = 23) := by
  rcases hf : find t s with k | n
  · exact .inl ⟨k, find_err hf, by rw [doStat_err' hf], by rw [doList_err' (.inl hf)]⟩
  · have h0 := g.found hf
    have h2 := g.kinds n
    by_cases h1 : (t n).kind = 1
    · refine .inr (.inl ?_)
      rw [doStat_ok hf, doList_ok hf h1]
      refine ⟨rfl, h1, rfl, ?_⟩
      simp [(g.dir n h1).2]
    · refine .inr (.inr ?_)
      rw [doStat_ok hf, doList_err' (.inr ⟨n, hf, h1, rfl⟩)]
      exact ⟨rfl, by show (t n).kind = 2; omega, rfl⟩

/-- A sum over the first k nodes. -/
def sumK (f : NodeV → Nat) (ns : List NodeV) (k : Nat) : Nat := ((ns.take k).map f).sum
theorem sumK_zero (f : NodeV → Nat) (ns : List NodeV) : sumK f ns 0 = 0 := by simp [sumK]
theorem sumK_succ (f : NodeV → Nat) {ns : List NodeV} {k : Nat} (h : k < ns.length) : sumK f ns (k + 1) = sumK f ns k + f ns[k] := by
  unfold sumK
  rw [List.take_succ_eq_append_getElem h, List.map_append, List.sum_append]
  simp
theorem sumK_all (f : NodeV → Nat) {ns : List NodeV} {k : Nat} (h : k = ns.length) : sumK f ns k = (ns.map f).sum := by
  unfold sumK
  rw [h, List.take_length]
theorem sumK_le (f : NodeV → Nat) (ns : List NodeV) (M : Nat) (h : ∀ x ∈ ns, f x ≤ M) : ∀ k, k ≤ ns.length → sumK f ns k ≤ k * M := fun k => by
  induction k with
  | zero => intro _; rw [sumK_zero]; omega
  | succ k ih =>
    intro hk
    rw [sumK_succ f (by omega), Nat.succ_mul]
    have := ih (by omega)
    have := h _ (List.getElem_mem (show k < ns.length by omega))
    omega
theorem sum_having (t : Tr) (f : Nat → Nat) (h0 : ∀ n, (t n).kind = 0 → f n = 0) : ∀ l : List Nat, ((l.filter fun n => decide ((t n).kind ≠ 0)).map f).sum = (l.map f).sum
  | [] => rfl
  | a :: l => by
    have ih := sum_having t f h0 l
    rw [List.filter_cons]
    by_cases h : (t a).kind = 0
    · rw [if_neg (by simp [h]), ih, List.map_cons, List.sum_cons, h0 a h, Nat.zero_add]
    · rw [if_pos (by simp [h]), List.map_cons, List.sum_cons, ih, List.map_cons, List.sum_cons]
theorem nodes_sum (t : Tr) (F : NodeV → Nat) (h0 : ∀ n, (t n).kind = 0 → F (nodeV t n) = 0) : ((nodesOf t).map F).sum = ((List.range 64).map fun n => F (nodeV t n)).sum := by
  unfold nodesOf having
  rw [List.map_map]
  exact sum_having t (F ∘ nodeV t) h0 _
theorem nodes_counted {t : Tr} (g : Good t) : ((nodesOf t).map (·.links)).sum = ((nodesOf t).map (·.entries.length)).sum + 1 := by
  rw [nodes_sum t (·.links) (fun n h => by show (t n).links = 0; rw [g.void n h]; rfl), nodes_sum t (·.entries.length) (fun n h => by show (t n).entries.length = 0; rw [g.void n h]; rfl)]
  exact g.counted
theorem nodes_data {t : Tr} (g : Good t) {x : NodeV} (hx : x ∈ nodesOf t) : x.data.length ≤ 512 := by
  unfold nodesOf at hx
  obtain ⟨n, _, rfl⟩ := List.mem_map.1 hx
  show (t n).data.length ≤ 512
  have h0 := g.kinds n
  rcases (show (t n).kind = 0 ∨ (t n).kind = 1 ∨ (t n).kind = 2 by omega) with h | h | h
  · rw [g.void n h]
    exact Nat.zero_le _
  · rw [(g.dir n h).2]
    exact Nat.zero_le _
  · exact (g.file n h).2
theorem nodes_links {w : World} {L : Lay} {N : Nat} {t : Tr} (h : TreeAt w L N t) (g : Good t) (hN : N ≤ 1000000) {x : NodeV} (hx : x ∈ nodesOf t) : x.links ≤ 64000000 := by
  unfold nodesOf at hx
  obtain ⟨n, hn, rfl⟩ := List.mem_map.1 hx
  exact (h.links_le g hN (having_mem.1 hn).2).1
theorem nodes_ents {w : World} {L : Lay} {N : Nat} {t : Tr} (h : TreeAt w L N t) (g : Good t) (hN : N ≤ 1000000) {x : NodeV} (hx : x ∈ nodesOf t) : x.entries.length ≤ 64000000 := by
  unfold nodesOf at hx
  obtain ⟨n, hn, rfl⟩ := List.mem_map.1 hx
  have := h.ents_le g n
  show (t n).entries.length ≤ _
  omega
end Go.Proofs.YtlkiaghpdjbfeaaGreatDoor

namespace Go.Proofs.YtlkiaghpdjbfeaaGreatDoor
open Go.RowKit Go.Maps

theorem nodes_small {w : World} {L : Lay} {N : Nat} {t : Tr} (h : TreeAt w L N t) (g : Good t) (hN : N ≤ 1000000) : ∀ x ∈ nodesOf t, x.data.length ≤ 1000000 ∧ x.entries.length ≤ 1000000 := fun x hx => by
  refine ⟨by have := nodes_data g hx; omega, ?_⟩
  unfold nodesOf at hx
  obtain ⟨n, hn, rfl⟩ := List.mem_map.1 hx
  have := h.ents_le g n
  show (t n).entries.length ≤ _
  omega
theorem nodes_64 (t : Tr) : (nodesOf t).length ≤ 64 := by unfold nodesOf; rw [List.length_map]; exact having_le _
end Go.Proofs.YtlkiaghpdjbfeaaGreatDoor

namespace Go.Proofs.YtlkiaghpdjbfeaaGreatDoor
open Go.RowKit Go.Maps

/-- The program's tree t, the document's tree u in block g; the call x lies in block cb. -/
structure TwoC (w X : World) (L : Lay) (N g : Nat) (t u : Tr) (cb : Nat) (x : TCall) (A1 : Option Addr) (c1 : Nat) : Prop where
  st : St8 w X L N t
  rf : RefAt (fun b => ¬ Foot L t b) X g u
  gl : w.heap.size ≤ g
  gd : Good u
  cl : X.heap[cb]? = some (.cells #[.int .i64 x.kind, .string (ba x.path), .string (ba x.other), .int .i64 x.off, .int .i64 x.n, .slice A1 x.data.length c1] 31 (0, 0))
  nf : ¬ Foot L t cb
  rd : Rd X w.heap.size A1 x.data
  sz : x.path.length ≤ 300 ∧ x.other.length ≤ 300 ∧ x.data.length ≤ 600
theorem RefAt.apart {S S' : Nat → Prop} {w w' : World} {g : Nat} {t : Tr} (h : RefAt (fun b => ¬ S b) w g t) (k : Keep S w w') (hg : ¬ S g) (hs : ∀ b, b < w.heap.size → ¬ S b → ¬ S' b) (hn : ∀ b, w'.heap.size ≤ b → ¬ S' b) : RefAt (fun b => ¬ S' b) w' g t := by
  have hl := h.lt
  have cc : ∀ j, w'.cell? ⟨g, j, none⟩ = w.cell? ⟨g, j, none⟩ := fun j => k.cell (p := ⟨g, j, none⟩) hl hg
  obtain ⟨ds, hb1, hb2⟩ := h.blk
  refine ⟨⟨ds, (k.block g hl hg).trans hb1, hb2⟩, fun n hn => ?_, hn⟩
  have r := h.node n hn
  obtain ⟨A, d, h1, h2, h3⟩ := r.data
  obtain ⟨A', d', e1, e2, e3, e4, e5⟩ := r.ents
  have hsz := k.size
  refine ⟨(cc _).trans r.num, (cc _).trans r.kind, (cc _).trans r.links, ⟨A, d, (cc _).trans h1, fun j b hj => ?_, fun a ha => ⟨(h3 a ha).1, fun hne => ?_⟩⟩, ⟨A', d', (cc _).trans e1, e2, e3, fun j e hj => ?_, fun a ha => ⟨(e5 a ha).1, fun hne => ?_⟩⟩⟩
  · obtain ⟨a, rfl, hb, hcell⟩ := h2 j b hj
    have hne := (h3 a rfl).2 (fun h0 => by rw [h0] at hj; simp at hj)
    exact ⟨a, rfl, by omega, (k.cell (by rw [block_add]; exact hb) (by rw [block_add]; exact hne)).trans hcell⟩
  · obtain ⟨a', e, hb⟩ := h2.some_of (List.length_pos_iff.2 hne)
    rw [ha] at e
    injection e with e
    subst e
    exact hs _ hb ((h3 a ha).2 hne)
  · obtain ⟨b, o, rfl, hb, m1, m2⟩ := e4 j e hj
    have hne := (e5 _ rfl).2 (fun h0 => by rw [h0] at hj; simp at hj)
    exact ⟨b, o, rfl, by omega, (k.cell (p := ⟨b, o + j * 2, none⟩) hb hne).trans m1, (k.cell (p := ⟨b, o + j * 2 + 1, none⟩) hb hne).trans m2⟩
  · obtain ⟨b, o, e, hb, _⟩ := e4 0 _ (List.getElem?_eq_getElem (List.length_pos_iff.2 hne))
    rw [ha] at e
    injection e with e
    subst e
    exact hs b hb ((e5 _ ha).2 hne)
theorem foot_g {X : World} {L : Lay} {N g : Nat} {t u : Tr} {Z : Nat → Prop} (T : TreeAt X L N t) (R : RefAt Z X g u) : ¬ Foot L t g := by
  obtain ⟨cs, hb, _⟩ := R.blk
  rintro (e | e | ⟨n, hn, e | ⟨h1, e⟩ | e⟩)
  · rw [e, T.tree] at hb
    injection hb with hb
    injection hb with _ hb
    exact absurd hb (by decide)
  · obtain ⟨es, c, hm⟩ := T.map.heap
    rw [e, hm] at hb
    cases hb
  · rw [e, T.node n hn] at hb
    injection hb with hb
    injection hb with _ hb
    exact absurd hb (by decide)
  · obtain ⟨es, c, hm⟩ := (T.dir n h1).heap
    rw [e, hm] at hb
    cases hb
  · obtain ⟨cs', hm⟩ := own_heap (T.data n hn) e
    rw [hm] at hb
    injection hb with hb
    injection hb with _ hb
    exact absurd hb (by decide)
/-- An answer that lies where S doesn't reach. -/
structure AnsOut (S : Nat → Prop) (X : World) (r : TAns) (A : Option Addr) (c : Nat) (A' : Option Addr) (c' : Nat) : Prop where
  rd : Rd X X.heap.size A r.data
  st : Strs X X.heap.size A' (r.names.map ba)
  no : ∀ a : Addr, A = some a → ¬ S a.block
  no' : ∀ a : Addr, A' = some a → ¬ S a.block
theorem AnsOut.kept {S : Nat → Prop} {X X' : World} {r : TAns} {A A' : Option Addr} {c c' : Nat} (h : AnsOut S X r A c A' c') (k : Keep S X X') : AnsOut S X' r A c A' c' :=
  ⟨(h.rd.keepS (Nat.le_refl _) k h.no).more k.size, h.st.keepS k h.no', h.no, h.no'⟩
theorem AnsOut.far {S : Nat → Prop} {X X' : World} {r : TAns} {A A' : Option Addr} {c c' : Nat} (h : AnsOut S X r A c A' c') (k : KF X X') : AnsOut S X' r A c A' c' :=
  ⟨(h.rd.keepF k (Nat.le_refl _)).more k.size, h.st.keepS k (fun _ _ h => h), h.no, h.no'⟩
section
variable {w X X' : World} {L : Lay} {N g : Nat} {t u : Tr} {cb : Nat} {x : TCall} {A1 : Option Addr} {c1 : Nat}
theorem TwoC.ne (h : TwoC w X L N g t u cb x A1 c1) : cb ≠ g := fun e => by
  obtain ⟨cs, hb, _⟩ := h.rf.blk
  rw [← e, h.cl] at hb
  injection hb with hb
  injection hb with _ hb
  exact absurd hb (by decide)
theorem TwoC.far (h : TwoC w X L N g t u cb x A1 c1) (k : KF X X') : TwoC w X' L N g t u cb x A1 c1 :=
  ⟨h.st.later k, h.rf.kept k, h.gl, h.gd, (k.block cb (lt_of_block h.cl) (fun h => h)).trans h.cl, h.nf, h.rd.keepF k h.st.kf.size, h.sz⟩
theorem TwoC.cells (h : TwoC w X L N g t u cb x A1 c1) : X.cell? ⟨cb, 0, none⟩ = some (.int .i64 x.kind) ∧ X.cell? ⟨cb, 1, none⟩ = some (.string (ba x.path)) ∧ X.cell? ⟨cb, 2, none⟩ = some (.string (ba x.other)) ∧ X.cell? ⟨cb, 3, none⟩ = some (.int .i64 x.off) ∧ X.cell? ⟨cb, 4, none⟩ = some (.int .i64 x.n) ∧ X.cell? ⟨cb, 5, none⟩ = some (.slice A1 x.data.length c1) := by
  have hb := h.cl
  refine ⟨?_, ?_, ?_, ?_, ?_, ?_⟩ <;> simp [World.cell?, hb]
theorem TwoC.pdo (h : TwoC w X L N g t u cb x A1 c1) (hN : N ≤ 1000000) :
    Calls Tryz.prog 11 #[.pointer (some ⟨L.tb, 0, none⟩), .agg #[.int .i64 x.kind, .string (ba x.path), .string (ba x.other), .int .i64 x.off, .int .i64 x.n, .slice A1 x.data.length c1]] X fun e w' =>
      ∃ A c A' c' L', e = .returned (.agg #[.int .i64 ((doT t x).1.err : Int), .int .i64 ((doT t x).1.kind : Int), .int .i64 ((doT t x).1.size : Int), .int .i64 ((doT t x).1.links : Int), .slice A (doT t x).1.data.length c, .slice A' (doT t x).1.names.length c']) ∧
        Hid (L'.tb = L.tb ∧ TwoC w w' L' (N + 1) g (doT t x).2 u cb x A1 c1 ∧ AnsOut (fun i => i = g) w' (doT t x).1 A c A' c' ∧ Keep (Foot L t) X w') := by
  have hsz := h.sz
  have hfg := foot_g h.st.tree h.rf
  have hgl := h.rf.lt
  refine (do_any x A1 x.data.length c1 w.heap.size X L N t h.st.tree h.st.good (h.st.env.kept h.st.kf) hN ⟨rfl, ⟨by omega, by omega, by omega⟩, h.rd⟩ h.st.kf.size fun a ha h0 hf => ?_).mono ?_
  · obtain ⟨a', e, hlt⟩ := h.rd.some_of h0
    rw [ha] at e
    injection e with e
    subst e
    have := h.st.far _ hf
    omega
  · rintro e w' ⟨A, c, A', c', rfl, hr, hs, h3, h4, L', h5, h6, h7, h8, h9, h10⟩
    have kk : KF w w' := Keep.trans h.st.kf h7 fun i hi hf => by have := h.st.far i hf; omega
    have S' : St8 w w' L' (N + 1) (doT t x).2 := ⟨h6, doT_good h.st.good x, fun q hq => by
      rcases h8 q hq with h' | h'
      · exact h.st.far q h'
      · exact Nat.le_trans h.st.kf.size h', kk, h.st.env⟩
    have hlt := lt_of_block h.cl
    refine ⟨A, c, A', c', L', rfl, Lib.hid ⟨h5, ⟨S', ?_, h.gl, h.gd, (h7.block cb hlt h.nf).trans h.cl, fun hf => ?_, ?_, h.sz⟩, ⟨hr, hs, fun a ha (e : a.block = g) => ?_, fun a ha (e : a.block = g) => ?_⟩, h7⟩⟩
    · refine h.rf.apart h7 hfg (fun b hb hz hf => ?_) (fun b hb hf => by have := h6.lt hf; omega)
      rcases h8 b hf with h' | h'
      · exact hz h'
      · omega
    · rcases h8 cb hf with h' | h'
      · exact h.nf h'
      · omega
    · rcases Nat.eq_zero_or_pos x.data.length with h0 | h0
      · rw [List.eq_nil_of_length_eq_zero h0]; exact Rd.nil
      · refine (h.rd.keepS h.st.kf.size h7 fun a ha hf => ?_)
        obtain ⟨a', e, hlt'⟩ := h.rd.some_of h0
        rw [ha] at e
        injection e with e
        subst e
        have := h.st.far _ hf
        omega
    · have := h3 a ha
      omega
    · have := h4 a ha
      omega
theorem TwoC.rdo (h : TwoC w X L N g t u cb x A1 c1) (hsm : Small u) :
    Calls Tryz.prog 12 #[.pointer (some ⟨g, 0, none⟩), .agg #[.int .i64 x.kind, .string (ba x.path), .string (ba x.other), .int .i64 x.off, .int .i64 x.n, .slice A1 x.data.length c1]] X fun e w' =>
      ∃ A c A' c', e = .returned (.agg #[.int .i64 ((doT u x).1.err : Int), .int .i64 ((doT u x).1.kind : Int), .int .i64 ((doT u x).1.size : Int), .int .i64 ((doT u x).1.links : Int), .slice A (doT u x).1.data.length c, .slice A' (doT u x).1.names.length c']) ∧
        Hid (TwoC w w' L N g t (doT u x).2 cb x A1 c1 ∧ AnsOut (Foot L t) w' (doT u x).1 A c A' c' ∧ Keep (fun i => i = g) X w') := by
  have hsz := h.sz
  have hfg := foot_g h.st.tree h.rf
  refine (rDo_any X g u x A1 x.data.length c1 rfl (by omega) (h.rd.more h.st.kf.size) h.rf h.gd hsm (by omega) (by omega)).mono ?_
  rintro e w' ⟨A, c, A', c', rfl, hr, hs, hk, hR, hz, hz'⟩
  have kk : KF w w' := Keep.trans h.st.kf hk fun i hi (e : i = g) => by have := h.gl; omega
  refine ⟨A, c, A', c', rfl, Lib.hid ⟨⟨⟨h.st.tree.kept hk (fun b hb (e : b = g) => hfg (e ▸ hb)), h.st.good, h.st.far, kk, h.st.env⟩, hR, h.gl, doT_good h.gd x, (hk.block cb (lt_of_block h.cl) h.ne).trans h.cl, h.nf, ?_, h.sz⟩, ⟨hr, hs, hz, hz'⟩, hk⟩⟩
  rcases Nat.eq_zero_or_pos x.data.length with h0 | h0
  · rw [List.eq_nil_of_length_eq_zero h0]; exact Rd.nil
  · refine h.rd.keepS h.st.kf.size hk fun a ha (e : a.block = g) => ?_
    obtain ⟨a', e', hlt'⟩ := h.rd.some_of h0
    rw [ha] at e'
    injection e' with e'
    subst e'
    have := h.gl
    omega
end
end Go.Proofs.YtlkiaghpdjbfeaaGreatDoor

namespace Go.Proofs.YtlkiaghpdjbfeaaGreatDoor
open Go.RowKit Go.Maps

def sp1 : TCall := ⟨1, [47, 97], [], 0, 0, []⟩
def sp2 : TCall := ⟨3, [47, 97, 47, 98], [], 0, 0, []⟩
def sp3 : TCall := ⟨6, [47, 97], [47, 97, 47, 99], 0, 0, []⟩
theorem sp_err : (doT newT sp1).1.err = 0 ∧ (doT (doT newT sp1).2 sp2).1.err = 0 ∧ (doT (doT (doT newT sp1).2 sp2).2 sp3).1.err = 26 ∧ (nodesOf (doT (doT (doT newT sp1).2 sp2).2 sp3).2).length = 3 := by decide +kernel
theorem CallIn.nil {w : World} {B : Nat} {c : TCall} (hd : c.data = []) (hp : c.path.length ≤ 1000000) (ho : c.other.length ≤ 1000000) : CallIn w B c none 0 0 := ⟨by rw [hd]; rfl, ⟨by omega, hp, ho⟩, by rw [hd]; exact Rd.nil⟩

set_option maxRecDepth 100000 in
set_option maxHeartbeats 8000000 in
theorem speaks_any (w : World) (he : Env w) : Calls Tryz.prog 6 #[] w fun e w' => e = .returned (.bool true) ∧ KF w w' := by
  have HN := Lib.hid (St8.new (KF.refl w) he)
  obtain ⟨e1, e2, e3, e4⟩ := sp_err
  have H1 : Hid (∀ wr L, St8 w wr L 1 newT → Calls Tryz.prog 11 #[.pointer (some ⟨L.tb, 0, none⟩), .agg #[.int .i64 1, .string ⟨#[47, 97]⟩, .string ⟨#[]⟩, .int .i64 0, .int .i64 0, .slice none 0 0]] wr _) := Lib.hid fun wr L h =>
    h.do_ (by omega) sp1 none 0 0 (CallIn.nil rfl (by decide) (by decide)) (fun a h => nomatch h)
  have H2 : Hid (∀ wr L, St8 w wr L 2 (doT newT sp1).2 → Calls Tryz.prog 11 #[.pointer (some ⟨L.tb, 0, none⟩), .agg #[.int .i64 3, .string ⟨#[47, 97, 47, 98]⟩, .string ⟨#[]⟩, .int .i64 0, .int .i64 0, .slice none 0 0]] wr _) := Lib.hid fun wr L h =>
    h.do_ (by omega) sp2 none 0 0 (CallIn.nil rfl (by decide) (by decide)) (fun a h => nomatch h)
  have H3 : Hid (∀ wr L, St8 w wr L 3 (doT (doT newT sp1).2 sp2).2 → Calls Tryz.prog 11 #[.pointer (some ⟨L.tb, 0, none⟩), .agg #[.int .i64 6, .string ⟨#[47, 97]⟩, .string ⟨#[47, 97, 47, 99]⟩, .int .i64 0, .int .i64 0, .slice none 0 0]] wr _) := Lib.hid fun wr L h =>
    h.do_ (by omega) sp3 none 0 0 (CallIn.nil rfl (by decide) (by decide)) (fun a h => nomatch h)
  generalize doT newT sp1 = r1 at *
  generalize doT r1.2 sp2 = r2 at *
  generalize doT r2.2 sp3 = r3 at *
  have z1 : ((r1.1.err : Int) == 0) = true := by rw [e1]; rfl
  have z2 : ((r2.1.err : Int) == 0) = true := by rw [e2]; rfl
  have z3 : ((r3.1.err : Int) == 26) = true := by rw [e3]; rfl
  have E4 := Lib.hid e4
  clear e1 e2 e3 e4
  go_enter Tryz.func6, Tryz.ntmps6
  go_wp2_with fail
  refine HN.out.mono ?_
  rintro e w1 ⟨L, rfl, S1, _, _⟩
  go_wp2_with fail
  refine (H1.out _ _ S1.out).mono ?_
  rintro e w2 ⟨A1, c1, A1', c1', L2, rfl, _, _, S2⟩
  obtain ⟨w2', hw2⟩ : ∃ w', w2.alloc (.cells (ansC r1.1 A1 c1 A1' c1') 36) = w' := ⟨_, rfl⟩
  have k2 : KF (w2.alloc (.cells (ansC r1.1 A1 c1 A1' c1') 36)) w2' := hw2 ▸ KF.refl _
  have q1 := fresh_cell k2 0 rfl
  have T2 := S2.out.st.later (fresh_far k2)
  have n1 : ¬ Foot L2 r1.2 w2.heap.size := S2.out.st.free (Nat.le_refl _)
  have l1 : w2.heap.size < w2'.heap.size := Nat.lt_of_lt_of_le (by simp) k2.size
  have C2 := H2.out _ _ T2
  rw [S2.out.tb] at C2
  have HC2 := Lib.hid C2
  have HW2 := Lib.hid hw2
  clear C2 hw2
  go_upto_region 3 with fail
  rw [HW2.out]
  go_wp2_with fail
  refine HC2.out.mono ?_
  rintro e w3 ⟨A2, c2, A2', c2', L3, rfl, _, _, S3⟩
  obtain ⟨n1', l1', q1'⟩ := S3.out.old l1 n1
  have q1a := (q1' 0).trans q1
  obtain ⟨w3', hw3⟩ : ∃ w', w3.alloc (.cells (ansC r2.1 A2 c2 A2' c2') 36) = w' := ⟨_, rfl⟩
  have k3 : KF (w3.alloc (.cells (ansC r2.1 A2 c2 A2' c2') 36)) w3' := hw3 ▸ KF.refl _
  have q2 := fresh_cell k3 0 rfl
  have q1b := ((fresh_far k3).cell (p := ⟨w2.heap.size, 0, none⟩) l1').trans q1a
  have T3 := S3.out.st.later (fresh_far k3)
  have n2 : ¬ Foot L3 r2.2 w3.heap.size := S3.out.st.free (Nat.le_refl _)
  have l2 : w3.heap.size < w3'.heap.size := Nat.lt_of_lt_of_le (by simp) k3.size
  have C3 := H3.out _ _ T3
  rw [S3.out.tb, S2.out.tb] at C3
  have HC3 := Lib.hid C3
  have HW3 := Lib.hid hw3
  clear C3 hw3 q1 q1' q1a
  go_upto_region 4 with fail
  rw [HW3.out]
  go_wp2_with fail
  refine HC3.out.mono ?_
  rintro e w4 ⟨A3, c3, A3', c3', L4, rfl, _, _, S4⟩
  obtain ⟨_, l1c, q1'⟩ := S4.out.old (Nat.lt_of_lt_of_le l1' (fresh_far k3).size) (b := w2.heap.size) n1'
  obtain ⟨_, l2c, q2'⟩ := S4.out.old l2 n2
  have q1c := (q1' 0).trans q1b
  have q2c := (q2' 0).trans q2
  obtain ⟨w4', hw4⟩ : ∃ w', w4.alloc (.cells (ansC r3.1 A3 c3 A3' c3') 36) = w' := ⟨_, rfl⟩
  have k4 : KF (w4.alloc (.cells (ansC r3.1 A3 c3 A3' c3') 36)) w4' := hw4 ▸ KF.refl _
  have q3 := fresh_cell k4 0 rfl
  have q1d := ((fresh_far k4).cell (p := ⟨w2.heap.size, 0, none⟩) l1c).trans q1c
  have q2d := ((fresh_far k4).cell (p := ⟨w3.heap.size, 0, none⟩) l2c).trans q2c
  have T4 := S4.out.st.later (fresh_far k4)
  have C4 := T4.nodes (by omega)
  rw [S4.out.tb, S3.out.tb, S2.out.tb] at C4
  have HC4 := Lib.hid C4
  have HW4 := Lib.hid hw4
  clear C4 hw4 q1' q2' q1c q2c q1b q2
  go_upto_region 5 with fail
  rw [HW4.out]
  go_wp2_with fail
  refine HC4.out.mono ?_
  rintro e w5 ⟨A5, c5, rfl, hN5, k5⟩
  rw [E4.out]
  go_wp2_with fail
  go_ret
  exact ⟨rfl, KF.trans (KF.trans S4.out.kf (fresh_far k4)) k5⟩
end Go.Proofs.YtlkiaghpdjbfeaaGreatDoor

namespace Go.Proofs.YtlkiaghpdjbfeaaGreatDoor
open Go.RowKit Go.ChangeShapes Go.WideShapes Go.ChangeAt
theorem cellsU8 : Tryz.prog.cellsOf 5 = 1 := by kernel_rfl
theorem cellsCall : Tryz.prog.cellsOf 31 = 6 := by kernel_rfl
theorem cellsInt : Tryz.prog.cellsOf 3 = 1 := by kernel_rfl
theorem cellsBytes : Tryz.prog.cellsOf 29 = 1 := by kernel_rfl
theorem callFields : ∃ f0 f1 f2 f3 f4 f5 : Field, Tryz.prog.underlying 31 = some (.struct #[f0, f1, f2, f3, f4, f5]) ∧ (f0.type = 3 ∧ f0.offset = 0) ∧ (f1.type = 9 ∧ f1.offset = 1) ∧ (f2.type = 9 ∧ f2.offset = 2) ∧ (f3.type = 3 ∧ f3.offset = 3) ∧ (f4.type = 3 ∧ f4.offset = 4) ∧ (f5.type = 29 ∧ f5.offset = 5) :=
  ⟨_, _, _, _, _, _, Tryz.underlying31, ⟨rfl, rfl⟩, ⟨rfl, rfl⟩, ⟨rfl, rfl⟩, ⟨rfl, rfl⟩, ⟨rfl, rfl⟩, ⟨rfl, rfl⟩⟩
section
variable {H : Type} {enc : TypeId × Value → H} {W : World}
set_option maxRecDepth 100000 in
theorem bytes_in {base : Nat} {spare : Nat → Bool} {held : Bool} {fuel : Nat} {cs : List Value} {y : DataW H × List MemPlace} (h : DataW.trod enc Tryz.prog W base spare held fuel 29 cs = some y) :
    ∃ (A : Option Addr) (l : List UInt8) (c : Nat), cs = [.slice A l.length c] ∧ l.length ≤ c ∧ c ≤ maxLen ∧ Rd W W.heap.size A l := by
  have hv : ∀ A n c, cs = [.slice A n c] → DataW.Trod enc Tryz.prog W base spare held 29 (.slice A n c) y.1 y.2 := fun A n c e => ⟨fuel, by subst e; exact h⟩
  rcases DataW.trod_slice Tryz.underlying29 h with ⟨e3, _⟩ | ⟨a, m, c, _, _, _, _, e3, _⟩
  · exact ⟨none, [], 0, e3, Nat.le_refl _, Nat.zero_le _, Rd.nil⟩
  · rcases open_ints Tryz.underlying29 Tryz.underlying5 cellsU8 h with ⟨hcs, _⟩ | ⟨a, len, cap, zs, hcs, _, hl, hm, hz, _, hcell, hwz⟩
    · exact ⟨none, [], 0, hcs, Nat.le_refl _, Nat.zero_le _, Rd.nil⟩
    · have hle : len ≤ zs.length := by rw [hz]; split <;> omega
      have hb : ∀ n ∈ zs, 0 ≤ n ∧ n < 256 := fun n hn => by
        have h := hwz n hn
        have h1 : IntKind.u8.min = 0 := rfl
        have h2 : IntKind.u8.max = 255 := rfl
        simp only [Lit.wf, Bool.and_eq_true, decide_eq_true_eq, h1, h2] at h
        omega
      have hlen : ((zs.take len).map fun n => UInt8.ofNat n.toNat).length = len := by simp; omega
      refine ⟨some a, (zs.take len).map fun n => UInt8.ofNat n.toNat, cap, by rw [hlen]; exact hcs, by omega, hm, fun j b hj => ?_⟩
      have hjl : j < len := by
        rcases Nat.lt_or_ge j len with h' | h'
        · exact h'
        · rw [List.getElem?_eq_none (by omega)] at hj; cases hj
      have hc := hcell j (by omega)
      have hlt := World.block_lt_of_cell? W _ hc
      rw [block_add] at hlt
      refine ⟨a, rfl, hlt, ?_⟩
      rw [hc]
      have hjz : j < zs.length := by omega
      simp only [List.getElem?_map, List.getElem?_take, hjl, if_true, List.getElem?_eq_getElem hjz, Option.map_some, Option.some.injEq] at hj
      have hbj := hb _ (List.getElem_mem hjz)
      rw [← hj]
      simp only [List.getD, List.getElem?_eq_getElem hjz, Option.getD_some]
      have : (UInt8.ofNat zs[j].toNat).toNat = zs[j].toNat := by
        rw [UInt8.toNat_ofNat']
        exact Nat.mod_eq_of_lt (by omega)
      rw [this]
      congr 2
      omega
set_option maxRecDepth 100000 in
theorem call_cells {base : Nat} {spare : Nat → Bool} {held : Bool} {fuel : Nat} {cs : List Value} {y : DataW H × List MemPlace} (h : DataW.trod enc Tryz.prog W base spare held fuel 31 cs = some y) : ∃ (x : TCall) (A1 : Option Addr) (c1 : Nat), callL x A1 c1 = cs ∧ Rd W W.heap.size A1 x.data := by
  obtain ⟨f0, f1, f2, f3, f4, f5, hu, ⟨t0, o0⟩, ⟨t1, o1⟩, ⟨t2, o2⟩, ⟨t3, o3⟩, ⟨t4, o4⟩, ⟨t5, o5⟩⟩ := callFields
  obtain ⟨ys, n, _, _, hlen, hyl, hf⟩ := DataW.trod_struct hu h
  rw [cellsCall] at hlen
  match cs, hlen with
  | [c0, c1, c2, c3, c4, c5], _ =>
    have g0 := hf 0 f0 rfl
    have g1 := hf 1 f1 rfl
    have g2 := hf 2 f2 rfl
    have g3 := hf 3 f3 rfl
    have g4 := hf 4 f4 rfl
    have g5 := hf 5 f5 rfl
    rw [t0, o0, cellsInt, List.getElem?_eq_getElem (by rw [hyl]; simp)] at g0
    rw [t1, o1, cellsStr, List.getElem?_eq_getElem (by rw [hyl]; simp)] at g1
    rw [t2, o2, cellsStr, List.getElem?_eq_getElem (by rw [hyl]; simp)] at g2
    rw [t3, o3, cellsInt, List.getElem?_eq_getElem (by rw [hyl]; simp)] at g3
    rw [t4, o4, cellsInt, List.getElem?_eq_getElem (by rw [hyl]; simp)] at g4
    rw [t5, o5, cellsBytes, List.getElem?_eq_getElem (by rw [hyl]; simp)] at g5
    obtain ⟨k0, e0, _, _⟩ := DataW.trod_int Tryz.underlying3 g0
    obtain ⟨s1, e1, _, _⟩ := DataW.trod_string Tryz.underlying9 g1
    obtain ⟨s2, e2, _, _⟩ := DataW.trod_string Tryz.underlying9 g2
    obtain ⟨k3, e3, _, _⟩ := DataW.trod_int Tryz.underlying3 g3
    obtain ⟨k4, e4, _, _⟩ := DataW.trod_int Tryz.underlying3 g4
    obtain ⟨A1, l, c, e5, _, _, hr⟩ := bytes_in g5
    simp only [List.drop, List.take, List.cons.injEq, and_true] at e0 e1 e2 e3 e4 e5
    subst e0 e1 e2 e3 e4 e5
    exact ⟨⟨k0, s1.data.toList, s2.data.toList, k3, k4, l⟩, A1, c, by simp only [callL, ba_data], hr⟩
set_option maxRecDepth 100000 in
theorem open_calls {base b0 : Nat} {r : Reach} {spare : Nat → Bool} {held : Bool} {v : Value} {d : DataW H} {p : List MemPlace}
    (hv : Value.okWide Tryz.prog W r b0 22 v) (h : DataW.Trod enc Tryz.prog W base spare held 22 v d p) : ∃ (A : Option Addr) (xs : List TCall) (n c : Nat), v = .slice A n c ∧ n = xs.length ∧ n ≤ c ∧ c ≤ maxLen ∧ CallsAt W W.heap.size A xs := by
  obtain ⟨A, n, c, rfl, hc, hm, hi⟩ := open_cells Tryz.underlying22 (Nat.lt_of_lt_of_eq (show 0 < 6 by decide) cellsCall.symm) hv h
  have hx : ∀ i, i < n → ∃ x : TCall, ∃ b o A1 c1, A = some ⟨b, o, none⟩ ∧ b < W.heap.size ∧ (∀ j u, (callL x A1 c1)[j]? = some u → W.cell? ⟨b, o + i * 6 + j, none⟩ = some u) ∧ Rd W W.heap.size A1 x.data := fun i hin => by
    obtain ⟨b, o, cs, fuel, y, hA, hb, _, hcell, hy⟩ := hi i hin
    obtain ⟨x, A1, c1, rfl, hr⟩ := call_cells hy
    rw [cellsCall] at hcell
    exact ⟨x, b, o, A1, c1, hA, hb, hcell, hr⟩
  have each : ∀ k, k ≤ n → ∃ xs : List TCall, xs.length = k ∧ CallsAt W W.heap.size A xs := fun k => by
    induction k with
    | zero => exact fun _ => ⟨[], rfl, fun i x h => by simp at h⟩
    | succ k ih =>
      intro hk
      obtain ⟨xs, hl, hxs⟩ := ih (by omega)
      obtain ⟨x, b, o, A1, c1, hA, hb, hcell, hr⟩ := hx k (by omega)
      refine ⟨xs ++ [x], by simp [hl], fun i y hy => ?_⟩
      rcases Nat.lt_or_ge i xs.length with hlt | hge
      · rw [List.getElem?_append_left hlt] at hy
        exact hxs i y hy
      · rw [List.getElem?_append_right hge] at hy
        have hi0 : i - xs.length = 0 := by
          rcases Nat.eq_zero_or_pos (i - xs.length) with h | h
          · exact h
          · rw [List.getElem?_eq_none (by simp; omega)] at hy; cases hy
        rw [hi0] at hy
        simp at hy
        subst hy
        have : i = k := by omega
        subst this
        exact ⟨b, o, A1, c1, hA, hb, hcell, hr⟩
  obtain ⟨xs, hl, hxs⟩ := each n (Nat.le_refl _)
  exact ⟨A, xs, n, c, rfl, hl.symm, hc, hm, hxs⟩
end
end Go.Proofs.YtlkiaghpdjbfeaaGreatDoor
