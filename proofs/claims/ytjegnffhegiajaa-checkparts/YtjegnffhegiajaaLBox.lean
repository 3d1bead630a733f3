/- An op's box; hasBlock. -/
import Derived.Test.YtjegnffhegiajaaLOps
namespace Go.Proofs.Ytjegnffhegiajaa
open Go.RowKit
set_option linter.unusedVariables false
set_option maxRecDepth 100000

theorem hidO {p : Prop} (h : p) : Hid p := h
def BlkO (W : World) (b : Nat) (k n : Int) (v : Value) : Prop := W.heap[b]? = some (.cells #[.int .i64 k, .int .i64 n, v] 38 (0, 0))
theorem BlkO.new (W : World) (k n : Int) (v : Value) : BlkO (W.alloc (.cells #[.int .i64 k, .int .i64 n, v] 38)) W.heap.size k n v := heap_alloc_new W _
theorem BlkO.lt {W : World} {b : Nat} {k n : Int} {v : Value} (h : BlkO W b k n v) : b < W.heap.size := (Array.getElem?_eq_some_iff.1 h).1
theorem BlkO.step {W W' : World} {b : Nat} {k n : Int} {v : Value} (h : BlkO W b k n v) (hw : Below W.heap.size W W') : BlkO W' b k n v := by unfold BlkO; rw [hw.block b h.lt]; exact h
theorem BlkO.cells {W : World} {b : Nat} {k n : Int} {v : Value} (h : BlkO W b k n v) : W.cell? ⟨b, 0, none⟩ = some (.int .i64 k) ∧ W.cell? ⟨b, 1, none⟩ = some (.int .i64 n) ∧ W.cell? ⟨b, 2, none⟩ = some v := by
  unfold BlkO at h
  refine ⟨?_, ?_, ?_⟩ <;> simp [World.cell?, h]
theorem BlkO.free {W : World} {b : Nat} {k n : Int} {v : Value} (h : BlkO W b k n v) : W.frozen? ⟨b, 0, none⟩ = false ∧ W.frozen? ⟨b, 1, none⟩ = false ∧ W.frozen? ⟨b, 2, none⟩ = false := by
  unfold BlkO at h
  refine ⟨?_, ?_, ?_⟩ <;> simp [World.frozen?, h]
theorem BlkO.put {W : World} {b : Nat} {k n : Int} {v : Value} (h : BlkO W b k n v) (k' n' : Int) (v' : Value) :
    BlkO (((W.setCell ⟨b, 0, none⟩ (.int .i64 k')).setCell ⟨b, 1, none⟩ (.int .i64 n')).setCell ⟨b, 2, none⟩ v') b k' n' v' := by
  unfold BlkO at h ⊢
  simp only [World.setCell, Array.getElem?_modify, h]
  simp
theorem BlkO.put2 {W : World} {b : Nat} {k n : Int} {v : Value} (h : BlkO W b k n v) (v' : Value) : BlkO (W.setCell ⟨b, 2, none⟩ v') b k n v' := by
  unfold BlkO at h ⊢
  simp only [World.setCell, Array.getElem?_modify, h]
  simp
theorem bel_put {w W : World} {b B : Nat} (h : Below B w W) (hb : B ≤ b) (u0 u1 u2 : Value) :
    Below B w (((W.setCell ⟨b, 0, none⟩ u0).setCell ⟨b, 1, none⟩ u1).setCell ⟨b, 2, none⟩ u2) :=
  ((h.setCell (p := ⟨b, 0, none⟩) hb _).setCell (p := ⟨b, 1, none⟩) hb _).setCell (p := ⟨b, 2, none⟩) hb _
theorem loadO {W : World} {b : Nat} {k n : Int} {v : Value} (h : BlkO W b k n v) :
    (loadVar 38 ⟨b, 0, none⟩).run Try.prog W = .ok (.agg #[.int .i64 k, .int .i64 n, v]) W := by
  have a30 := Try.isAgg38
  have z30 := Try.sizeOf38
  obtain ⟨h0, h1, h2⟩ := h.cells
  have hc := run_loadCells_list (P := Try.prog) W ⟨b, 0, none⟩ [.int .i64 k, .int .i64 n, v] (fun j v hj => by
    match j, hj with
    | 0, hj => simp at hj; subst hj; simpa [Addr.add] using h0
    | 1, hj => simp at hj; subst hj; simpa [Addr.add] using h1
    | 2, hj => simp at hj; subst hj; simpa [Addr.add] using h2)
  simp [loadVar, a30, z30]
  have hc' : (loadCells ⟨b, 0, none⟩ 3).run Try.prog W = .ok #[.int .i64 k, .int .i64 n, v] W := hc
  rw [hc']
  rfl
theorem results_cell2 {P : Program} {fn : Func} {t u : Tmp} {T : TypeId} {a : Addr} {x : Value} (h : fn.results = #[.cell t T, .tmp u]) {tmps : Array Value} {w : World} (hp : tmps.getD t undef = .pointer (some a)) (hl : (loadVar T a).run P w = .ok x w) :
    (results fn tmps).run P w = .ok (.tuple #[x, tmps.getD u undef]) w := by
  have hp' : tmps[t]?.getD undef = .pointer (some a) := by simpa using hp
  simp [results, h, hp', hl, asAddr]
theorem BlkO.ret {fn : Func} {t u : Tmp} {W : World} {b : Nat} {k n : Int} {x : Value} (hB : BlkO W b k n x) (h : fn.results = #[.cell t 38, .tmp u]) {tmps : Array Value} (hp : tmps.getD t undef = .pointer (some ⟨b, 0, none⟩)) :
    (results fn tmps).run Try.prog W = .ok (.tuple #[.agg #[.int .i64 k, .int .i64 n, x], tmps.getD u undef]) W :=
  results_cell2 h hp (loadO hB)

theorem hasB_any (k : Int) (w : World) : Calls Try.prog 33 #[.int .i64 k] w fun e w' => e = .returned (.bool (hasB k)) ∧ w' = w := by
  unfold hasB
  cases h1 : k == 28 with
  | true =>
    go_enter Try.func33, Try.ntmps33
    go_wp2
    go_ret
    exact ⟨rfl, rfl⟩
  | false =>
    go_enter Try.func33, Try.ntmps33
    go_wp2
    go_ret
    exact ⟨rfl, rfl⟩
end Go.Proofs.Ytjegnffhegiajaa
