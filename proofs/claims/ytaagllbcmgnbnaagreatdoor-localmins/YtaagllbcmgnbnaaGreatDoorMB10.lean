/- One more number behind a row of the call's own. -/
import Derived.Test.YtaagllbcmgnbnaaGreatDoorMB2
namespace Go.Proofs.YtaagllbcmgnbnaaGreatDoor
open Go.RowKit
set_option linter.unusedVariables false
set_option maxRecDepth 100000

theorem wpApp {ops : Array Oper} {rest : List Oper} {o : Oper} {a : Act} {Q : Exit → Act → World → Prop} {W : World} {base : Nat} {v : Value} {l : List Int} {x : Int} (hgd : o.guard = none) (s xo : Operand)
    (ho : o.op = .call { callee := .builtin .append, args := #[s, xo], argTypes := #[78, 78] }) (hs : a.eval s = v) (hx : a.eval xo = .slice (some ⟨W.heap.size, 0, none⟩) 1 1)
    (hown : OwnL W base v l) (hl : l.length ≤ 1000000) (hb : base ≤ W.heap.size)
    (h : ∀ v' W', OwnL W' base v' (l ++ [x]) → (∀ w0, Below base w0 W → Below base w0 W') → wpList Tryz.prog ops Q rest (a.put o.dst v') W') : wpList Tryz.prog ops Q (o :: rest) a (W.alloc (.cells #[.int .i64 x] 2)) := by
  obtain ⟨i0, hi, hz0, hz1, hz2⟩ := info_parts Tryz.info2
  refine wpList_append_own_at _ hgd s xo 78 ho base 2 i0 _ 1 8 Tryz.underlying78 hi hz0 hz1 hz2 rfl (by decide) v l.length (l.map (Value.int .i64)) hs (hown.alloc _) ⟨W.heap.size, 0, none⟩ 1 1 [.int .i64 x] hx rfl (cell_one_new _ _ _) (by simp [Value.oneCell']) (by unfold maxLen; omega) (by omega) (by simp; omega) ?_
  intro v' w1 h1 h2 _ _
  refine h v' w1 (OwnL.snoc h1 rfl) fun w0 hw => ?_
  exact (hw.alloc hb _).grown h2 (by simp; omega) (own_row hown)
end Go.Proofs.YtaagllbcmgnbnaaGreatDoor
