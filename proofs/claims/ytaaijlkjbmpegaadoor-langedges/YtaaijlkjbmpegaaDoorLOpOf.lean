/- opOf: which op a word is. -/
import Derived.Test.YtaaijlkjbmpegaaDoorLLib
import Derived.Sort.Grow
namespace Go.Proofs.YtaaijlkjbmpegaaDoor
open Go.RowKit Go.Shelf
set_option linter.unusedVariables false
set_option maxRecDepth 100000

theorem hidO {p : Prop} (h : p) : Hid p := h
/-! ### The library's numbers -/
theorem parse_ok (s : ByteArray) (w : World) (hs : s.size ≤ 512) (v : Int) (h : Lib.parseIntB 64 (L s) = .ok v) :
    Calls Tryd.prog 47 #[.string s, .int .i64 10, .int .i64 64] w fun e w' => e = .returned (.tuple #[.int .i64 v, .nilIface]) ∧ Below w.heap.size w w' := by
  have hc := Any.strconv_ParseInt_10_at64_ok Tryd.lays174 s (by omega) v h w
  refine hc.mono fun e w' ⟨he, hw⟩ => ⟨he, ?_⟩
  rcases hw with rfl | ⟨t, rfl⟩
  · exact Below.refl _ _
  · exact Lib.bytesWorld_below _ _ _
theorem parse_no (s : ByteArray) (w : World) (hs : s.size ≤ 512) (hE : Env w) (h : ∀ v, Lib.parseIntB 64 (L s) ≠ .ok v) :
    Calls Tryd.prog 47 #[.string s, .int .i64 10, .int .i64 64] w fun e w' => (∃ z T p, e = .returned (.tuple #[.int .i64 z, .iface T (.pointer (some p))])) ∧ Below w.heap.size w w' := by
  cases hp : Lib.parseIntB 64 (L s) with
  | ok v => exact absurd hp (h v)
  | «syntax» =>
    obtain ⟨ev, h1, h2⟩ := hE.syn
    have hc := Any.strconv_ParseInt_10_at64_syntax Tryd.lays174 s (by omega) hp ev w h1 h2
    exact hc.mono fun e w' ⟨N, he, _, _, hb⟩ => ⟨⟨_, _, _, he⟩, hb⟩
  | range =>
    obtain ⟨ev, h1, h2⟩ := hE.rng
    have hc := Any.strconv_ParseInt_10_at64_range Tryd.lays174 s (by omega) hp ev w h1 h2
    exact hc.mono fun e w' ⟨N, he, _, _, hb⟩ => ⟨⟨_, _, _, he⟩, hb⟩
theorem format_any (n : Int) (w : World) (h0 : -9223372036854775808 ≤ n) (h1 : n ≤ 9223372036854775807) (hE : Env w) :
    Calls Tryd.prog 46 #[.int .i64 n, .int .i64 10] w fun e w' => e = .returned (.string (ba (Lib.itoa n))) ∧ Below w.heap.size w w' := by
  have hc := Any.strconv_FormatInt_10 Tryd.lays173 n h0 h1 w hE.pow
  refine hc.mono fun e w' ⟨he, k, os, hw⟩ => ⟨he, ?_⟩
  subst hw
  exact ⟨rfl, rfl, rfl, by simp [Go.Sort.grow], fun j hj => Go.Sort.heap_grow_old (w.drewN k) os hj⟩

/-! ### An op's box -/
def BlkO (W : World) (b : Nat) (k n : Int) (v : Value) : Prop := W.heap[b]? = some (.cells #[.int .i64 k, .int .i64 n, v] 60 (0, 0))
theorem BlkO.new (W : World) (k n : Int) (v : Value) : BlkO (W.alloc (.cells #[.int .i64 k, .int .i64 n, v] 60)) W.heap.size k n v := heap_alloc_new W _
theorem BlkO.lt {W : World} {b : Nat} {k n : Int} {v : Value} (h : BlkO W b k n v) : b < W.heap.size := (Array.getElem?_eq_some_iff.1 h).1
theorem BlkO.step {W W' : World} {b : Nat} {k n : Int} {v : Value} (h : BlkO W b k n v) (hw : Below W.heap.size W W') : BlkO W' b k n v := by unfold BlkO; rw [hw.block b h.lt]; exact h
theorem BlkO.cells {W : World} {b : Nat} {k n : Int} {v : Value} (h : BlkO W b k n v) : W.cell? ⟨b, 0, none⟩ = some (.int .i64 k) ∧ W.cell? ⟨b, 1, none⟩ = some (.int .i64 n) ∧ W.cell? ⟨b, 2, none⟩ = some v := by
  unfold BlkO at h
  refine ⟨?_, ?_, ?_⟩ <;> simp [World.cell?, h]
theorem BlkO.free {W : World} {b : Nat} {k n : Int} {v : Value} (h : BlkO W b k n v) : W.frozen? ⟨b, 0, none⟩ = false ∧ W.frozen? ⟨b, 1, none⟩ = false ∧ W.frozen? ⟨b, 2, none⟩ = false := by
  unfold BlkO at h
  refine ⟨?_, ?_, ?_⟩ <;> simp [World.frozen?, h]
theorem BlkO.put {W : World} {b : Nat} {k n : Int} {v : Value} (h : BlkO W b k n v) (k' n' : Int) (v' : Value) :
    BlkO (((W.setCell ⟨b, 0, none⟩ (.int .i64 k')).setCell ⟨b, 1, none⟩ (.int .i64 n')).setCell ⟨b, 2, none⟩ v') b k' n' v' := by
  unfold BlkO at h ⊢
  simp only [World.setCell, Array.getElem?_modify, h]
  simp
theorem BlkO.put2 {W : World} {b : Nat} {k n : Int} {v : Value} (h : BlkO W b k n v) (v' : Value) : BlkO (W.setCell ⟨b, 2, none⟩ v') b k n v' := by
  unfold BlkO at h ⊢
  simp only [World.setCell, Array.getElem?_modify, h]
  simp
theorem bel_put {w W : World} {b B : Nat} (h : Below B w W) (hb : B ≤ b) (u0 u1 u2 : Value) :
    Below B w (((W.setCell ⟨b, 0, none⟩ u0).setCell ⟨b, 1, none⟩ u1).setCell ⟨b, 2, none⟩ u2) :=
  ((h.setCell (p := ⟨b, 0, none⟩) hb _).setCell (p := ⟨b, 1, none⟩) hb _).setCell (p := ⟨b, 2, none⟩) hb _
theorem loadO {W : World} {b : Nat} {k n : Int} {v : Value} (h : BlkO W b k n v) :
    (loadVar 60 ⟨b, 0, none⟩).run Tryd.prog W = .ok (.agg #[.int .i64 k, .int .i64 n, v]) W := by
  have a30 := Tryd.isAgg60
  have z30 := Tryd.sizeOf60
  obtain ⟨h0, h1, h2⟩ := h.cells
  have hc := run_loadCells_list (P := Tryd.prog) W ⟨b, 0, none⟩ [.int .i64 k, .int .i64 n, v] (fun j v hj => by
    match j, hj with
    | 0, hj => simp at hj; subst hj; simpa [Addr.add] using h0
    | 1, hj => simp at hj; subst hj; simpa [Addr.add] using h1
    | 2, hj => simp at hj; subst hj; simpa [Addr.add] using h2)
  simp [loadVar, a30, z30]
  have hc' : (loadCells ⟨b, 0, none⟩ 3).run Tryd.prog W = .ok #[.int .i64 k, .int .i64 n, v] W := hc
  rw [hc']
  rfl
theorem results_cell2 {P : Program} {fn : Func} {t u : Tmp} {T : TypeId} {a : Addr} {x : Value} (h : fn.results = #[.cell t T, .tmp u]) {tmps : Array Value} {w : World} (hp : tmps.getD t undef = .pointer (some a)) (hl : (loadVar T a).run P w = .ok x w) :
    (results fn tmps).run P w = .ok (.tuple #[x, tmps.getD u undef]) w := by
  have hp' : tmps[t]?.getD undef = .pointer (some a) := by simpa using hp
  simp [results, h, hp', hl, asAddr]
theorem BlkO.ret {fn : Func} {t u : Tmp} {W : World} {b : Nat} {k n : Int} {x : Value} (hB : BlkO W b k n x) (h : fn.results = #[.cell t 60, .tmp u]) {tmps : Array Value} (hp : tmps.getD t undef = .pointer (some ⟨b, 0, none⟩)) :
    (results fn tmps).run Tryd.prog W = .ok (.tuple #[.agg #[.int .i64 k, .int .i64 n, x], tmps.getD u undef]) W :=
  results_cell2 h hp (loadO hB)

/-! ### hasBlock -/
theorem hasB_any (k : Int) (w : World) : Calls Tryd.prog 40 #[.int .i64 k] w fun e w' => e = .returned (.bool (hasB k)) ∧ w' = w := by
  unfold hasB
  cases h1 : k == 28 with
  | true =>
    go_enter Tryd.func40, Tryd.ntmps40
    go_wp2
    go_ret
    exact ⟨rfl, rfl⟩
  | false =>
    go_enter Tryd.func40, Tryd.ntmps40
    go_wp2
    go_ret
    exact ⟨rfl, rfl⟩
end Go.Proofs.YtaaijlkjbmpegaaDoor
