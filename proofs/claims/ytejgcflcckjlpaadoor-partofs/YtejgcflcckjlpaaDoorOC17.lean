/- One more is gathered: row's add. -/
import Derived.Test.YtejgcflcckjlpaaDoorOC10
import Derived.Test.YtejgcflcckjlpaaDoorOC16
import Derived.Test.YtejgcflcckjlpaaDoorOC11
import Derived.RegionTactic
import Derived.ChangeAlike
import Derived.Deep.RegionHeld3
import Derived.Deep.AppendLies
namespace Go.Proofs.YtejgcflcckjlpaaDoor
open Go.RowKit Go.Maps
set_option linter.unusedVariables false
set_option maxRecDepth 100000
/-- An append whose run is known, at a step of a region that draws. -/
theorem step_append_run {P : Program} (w : World) {E : Prop} {ops : Array Oper} {o : Oper} {a : Act} {K : Act → World → Prop} {Q : Exit → Act → World → Prop} (hgd : o.guard = none) (s x : Operand) (t : TypeId)
    (ho : o.op = .call { callee := .builtin .append, args := #[s, x], argTypes := #[t, t] }) (v u v' : Value) (w' : World) (hs : a.eval s = v) (hx : a.eval x = u)
    (hr : (Builtin.append_ #[t, t] o.type #[v, u]).run P w = .ok v' w') (h : K (a.put o.dst v') w') : if Region.wanted o (yielded ops a.tmps) = true then Oper.wp P o a w K Q else E := by
  have hw : Region.wanted o (yielded ops a.tmps) = true := by simp [Region.wanted, hgd]
  rw [if_pos hw]
  unfold Oper.wp execOp
  simp only [ho, resolve, invoke, builtin, Sem.run_bind, Sem.run_pure, Result.andThen_ok, List.map_toArray, List.map_cons, List.map_nil, hs, hx, hr]
  exact h
theorem blk2 {W : World} {b : Nat} {u v : Value} {T : TypeId} (h : W.heap[b]? = some (.cells #[u, v] T (0, 0))) : W.cell? ⟨b, 0, none⟩ = some u ∧ W.cell? ⟨b, 1, none⟩ = some v := by
  refine ⟨?_, ?_⟩ <;> simp [World.cell?, h]
/-- The two boxes of add. -/
structure Bx (w W : World) (k : Ky) (n : Int) (v : Value) : Prop where
  bel : Below w.heap.size w W
  sz : W.heap.size = w.heap.size + 2
  bk : W.heap[w.heap.size]? = some (.cells #[.int .i64 k.1, .string k.2] 31 (0, 0))
  bc : BlkC W (w.heap.size + 1) n v
theorem bx_ok (w : World) (k : Ky) (n : Int) (v : Value) : Bx w ((w.alloc (.cells #[.int .i64 k.1, .string k.2] 31)).alloc (.cells #[.int .i64 n, v] 55)) k n v := by
  have st : ∀ (W : World) (o : Obj), Below W.heap.size W (W.alloc o) := fun W o => (Below.refl _ _).alloc (Nat.le_refl _) _
  refine ⟨nxt (st _ _) (st _ _), by simp, ?_, ?_⟩
  · rw [(st _ _).block _ (by simp)]
    exact heap_alloc_new w _
  · have := BlkC.new (w.alloc (.cells #[.int .i64 k.1, .string k.2] 31)) n v
    simpa using this
/-- A map's block holds no row of numbers. -/
theorem keep_map {W W' : World} {mp n : Nat} {D : DataW Value} (hom : W.ownsMap Tryd.prog 31 RC mp n D) (hg : W.grownBy W' (some mp)) : Keep2 W W' := by
  obtain ⟨es, clock, hb, _⟩ := hom
  refine Keep2.grown hg fun g cur e hh => ?_
  injection e with e
  subst e
  rw [hb] at hh
  cases hh
end Go.Proofs.YtejgcflcckjlpaaDoor
