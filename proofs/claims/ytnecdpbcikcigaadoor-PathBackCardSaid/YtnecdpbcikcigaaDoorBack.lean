/-
  THE WALK of PathBack.
-/
import Derived.Test.YtnecdpbcikcigaaDoorNames
import Derived.Test.YtnecdpbcikcigaaDoorRefPath
namespace Go.Proofs.YtnecdpbcikcigaaDoor
open Go.RowKit

set_option maxRecDepth 100000 in
theorem back_walk (A : Option Addr) (ps : List Txt) (n c : Nat) (w : World) (hn : n = ps.length) (hc : n ≤ c) (hsz : ∀ p ∈ ps, p.length ≤ 9223372036854775807) (h : Strs w w.heap.size A (ps.map ba)) (he : Env w) (hb : n ≤ 9223372036854775807) :
    Calls Tryd.prog 5 #[.slice A n c] w fun e w' => e = .returned (.bool true) ∧ KF w w' := by
  have W0 := Lib.hid (speaks_any w he)
  have HE := Lib.hid he
  have HS := Lib.hid h
  have HN := Lib.hid hn
  have HZ := Lib.hid hsz
  clear he h hn hsz
  rcases Nat.lt_or_ge 8 n with hbig | hsm
  · have hd : decide ((8 : Int) < (n : Int)) = true := decide_eq_true (by omega)
    go_enter Tryd.func5, Tryd.ntmps5
    go_wp2_with fail
    refine W0.out.mono ?_
    rintro e w1 ⟨rfl, k1⟩
    go_wp2_with fail
    go_ret
    exact ⟨rfl, k1⟩
  · have hd : decide ((8 : Int) < (n : Int)) = false := decide_eq_false (by omega)
    go_enter Tryd.func5, Tryd.ntmps5
    go_wp2_with fail
    refine W0.out.mono ?_
    rintro e w1 ⟨rfl, k1⟩
    go_wp2_with fail
    go_loopg [14] n (fun g i wr => ∃ k : Nat, k ≤ n ∧ n - k ≤ g ∧ i = .int .i64 k ∧ KF w wr ∧ Hid (∀ p ∈ ps.take k, IsName p))
    case atStart => exact ⟨0, by omega, by omega, rfl, k1, Lib.hid (by simp)⟩
    case round =>
      obtain ⟨k, hk, hg, rfl, kr, HA⟩ := hrel
      rcases Nat.lt_or_ge k n with hlt | hge
      · have hlt' : (k : Int) < (n : Int) := by omega
        have q1 : k < ps.length := by rw [← HN.out]; exact hlt
        obtain ⟨b, o, rfl, hbb, hcell⟩ := World.cellAt (HS.out.kept kr) (n := k) (by rw [List.length_map]; exact q1)
        rw [List.getElem_map] at hcell
        have R := rname_any (ba ps[k]) wr (by rw [ba_size]; exact HZ.out _ (List.getElem_mem q1))
        have hbd : (ba ps[k]).data.toList = ps[k] := rfl
        rw [hbd] at R
        by_cases hname : IsName ps[k]
        · rw [decide_eq_true hname] at R
          have HX := Lib.hid (show ∀ p ∈ ps.take (k + 1), IsName p by
            intro p hp
            rw [List.take_add_one, List.getElem?_eq_getElem q1, List.mem_append] at hp
            rcases hp with hp | hp
            · exact HA.out p hp
            · rw [Option.toList_some, List.mem_singleton] at hp
              rw [hp]
              exact hname)
          have HR := Lib.hid R
          clear R hname hbd
          generalize ba ps[k] = x at hcell HR
          go_wp2_with fail
          refine HR.out.mono ?_
          rintro e w2 ⟨rfl, k2⟩
          go_wp2_with fail
          go_roundg (n - (k + 1))
          case measure => omega
          case rel => exact ⟨k + 1, by omega, by omega, by go_num, kr.trans k2, HX⟩
        · rw [decide_eq_false hname] at R
          have HR := Lib.hid R
          clear R hname hbd
          generalize ba ps[k] = x at hcell HR
          go_wp2_with fail
          refine HR.out.mono ?_
          rintro e w2 ⟨rfl, k2⟩
          go_wp2_with fail
          go_ret
          exact ⟨rfl, kr.trans k2⟩
      · obtain rfl : k = n := by omega
        have hlt' : ¬ (k : Int) < (k : Int) := by omega
        have hall : ∀ p ∈ ps, IsName p := by
          have := HA.out
          rw [HN.out, List.take_length] at this
          exact this
        have hjl := joined_le ps hall
        have hlen : ps.length ≤ 8 := by rw [← HN.out]; exact hsm
        have J := Lib.hid (join_any A ps k c wr HN.out hc (by omega) (by omega) (HS.out.kept kr))
        have HP := Lib.hid (show pathM (ba (joinM ps)).data.toList = some ps from pathM_joinM hlen hall)
        have zP : (ba (joinM ps)).size ≤ 1000000 := by rw [ba_size, List.length_cons]; omega
        clear hall hjl hlen
        generalize ba (joinM ps) = P at J HP zP
        have S1 := Lib.hid (fun w1 k1 => split_any P w1 zP (HE.out.kept (w' := w1) k1))
        go_wp2_with fail
        refine J.out.mono ?_
        rintro e w2 ⟨rfl, k2⟩
        have k2 := kr.trans k2
        go_wp2_with fail
        refine (S1.out _ k2).mono ?_
        rintro e w3 ⟨k3, ⟨hno, _⟩ | ⟨qs, A3, c3, hq, rfl, _, _, hst⟩⟩
        · rw [HP.out] at hno; cases hno
        · rw [HP.out] at hq
          injection hq with hq
          subst hq
          have k3 := k2.trans k3
          have SM := same_any A3 A ps.length k c3 c ps ps w3 rfl HN.out (by rw [← HN.out]; omega) (by omega) hst (HS.out.kept k3)
          rw [decide_eq_true rfl] at SM
          have HM := Lib.hid SM
          clear SM hst
          go_wp2_with fail
          refine HM.out.mono ?_
          rintro e w4 ⟨rfl, k4⟩
          go_wp2_with fail
          go_ret
          exact ⟨rfl, k3.trans k4⟩
end Go.Proofs.YtnecdpbcikcigaaDoor
