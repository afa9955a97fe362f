/-
  append onto a row of texts of the call's own, inside a fence. It speaks of no program.
-/
import Derived.Test.YtklpebfkgdklmaaDoorTexts
import Derived.OwnWalkIn
namespace Go.Proofs.YtklpebfkgdklmaaDoor
open Go.RowKit
theorem wpListIn_append_str {F : Fence} {m : Nat} {P : Program} (w : World) {ops : Array Oper} {rest : List Oper} {o : Oper} {a : Act} {Q : Exit → Act → World → Prop} (hgd : o.guard = none) (s x : Operand) (T : TypeId)
    (ho : o.op = .call { callee := .builtin .append, args := #[s, x], argTypes := #[T, T] }) {E : TypeId} (U : St P T E) (v : Value) (xs : List ByteArray) (hs : a.eval s = v) (hown : OwnT E w v xs) (B : Nat) (A : Option Addr) (n c : Nat) (ys : List ByteArray)
    (hx : a.eval x = .slice A n c) (hn : n = ys.length) (hr : Strs w B A ys) (hb : xs.length + ys.length ≤ 1000000000)
    (h : ∀ v' w', OwnT E w' v' (xs ++ ys) → w.grownBy w' v.ownBlock → (v'.ownBlock = v.ownBlock ∨ v'.ownBlock = some w.heap.size) → wpListIn F m P ops Q rest (a.put o.dst v') w') : wpListIn F m P ops Q (o :: rest) a w := by
  refine wpListIn_plain hgd fun K hK => ?_
  obtain ⟨v', w', hrun, h2, h3, h4⟩ := run_append_str (P := P) w U o.type v xs hown B A c ys n hn hr hb
  unfold Oper.wpIn
  refine ⟨?_, ?_⟩
  · simp [Oper.about, ho, resolve, Target.leads, Sem.run_pure]
  · rw [Oper.semAt_plain F _ _ (by rw [ho]; intro c hc'; cases hc')]
    simp [execOp, ho, resolve, invoke, builtin, hs, hx, hrun, Result.andThen]
    exact hK _ _ (h _ _ h2 h3 h4)
end Go.Proofs.YtklpebfkgdklmaaDoor
