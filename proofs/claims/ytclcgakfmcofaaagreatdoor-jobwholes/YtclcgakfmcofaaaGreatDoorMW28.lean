/- Texts laid together: JMem, JOpen, JWPlain, WChkX, JFn. -/
import Derived.Test.YtclcgakfmcofaaaGreatDoorMW19
import Derived.Test.YtclcgakfmcofaaaGreatDoorMW26
import Derived.Test.YtclcgakfmcofaaaGreatDoorMW27
import Derived.Test.YtclcgakfmcofaaaGreatDoorMW2
import Derived.Test.YtclcgakfmcofaaaGreatDoorMW10
import Derived.Test.YtclcgakfmcofaaaGreatDoorMW9
set_option linter.unusedVariables false
set_option maxRecDepth 100000
set_option maxHeartbeats 6400000
namespace Go.Proofs.YtclcgakfmcofaaaGreatDoor
open List (setIfInBounds_toArray set_cons_zero set_cons_succ)
open Go.RowKit
structure InJ (W : World) (j : Jb) (v : Value) (l : List Int) : Prop where
 ns : NS W v l
 len : l.length ≤ 100000
 prog : j.prog.size ≤ 100000
 id : bw j.id
 agg : bw j.agg
 bound : bw j.bound
 fuel : bw j.fuel
 parts : bw j.parts
 nums : ∀ x ∈ l, bw x
theorem InJ.below {W W' : World} {j : Jb} {v : Value} {l : List Int} (h : InJ W j v l) (hb : Below W.heap.size W W') : InJ W' j v l := ⟨h.ns.below hb, h.len, h.prog, h.id, h.agg, h.bound, h.fuel, h.parts, h.nums⟩
theorem InJ.slice {W : World} {j : Jb} {v : Value} {l : List Int} (h : InJ W j v l) : ∃ a c, v = .slice a l.length c := by
 obtain ⟨a, c, e, -⟩ := h.ns
 exact ⟨a, c, e⟩
theorem dN (W : World) (o : Obj) : Below W.heap.size W (W.alloc o) := (Below.refl _ _).alloc (Nat.le_refl _) _
def aG (W : World) (b : Nat) (x0 x1 x2 x3 x4 x5 x6 : Value) : Prop := W.heap[b]? = some (.cells #[x0, x1, x2, x3, x4, x5, x6] 37 (0, 0))
section
variable {W W' : World} {b : Nat} {x0 x1 x2 x3 x4 x5 x6 : Value}
theorem aG.new (W : World) (x0 x1 x2 x3 x4 x5 x6 : Value) : aG (W.alloc (.cells #[x0, x1, x2, x3, x4, x5, x6] 37)) W.heap.size x0 x1 x2 x3 x4 x5 x6 := heap_alloc_new W _
theorem aG.lt (h : aG W b x0 x1 x2 x3 x4 x5 x6) : b < W.heap.size := (Array.getElem?_eq_some_iff.1 h).1
theorem aG.far (h : aG W b x0 x1 x2 x3 x4 x5 x6) (hb : W'.heap[b]? = W.heap[b]?) : aG W' b x0 x1 x2 x3 x4 x5 x6 := by unfold aG; rw [hb]; exact h
theorem aG.below (h : aG W b x0 x1 x2 x3 x4 x5 x6) (hb : Below W.heap.size W W') : aG W' b x0 x1 x2 x3 x4 x5 x6 := h.far (hb.block b h.lt)
theorem aG.cells (h : aG W b x0 x1 x2 x3 x4 x5 x6) : W.cell? ⟨b, 0, none⟩ = some x0 ∧ W.cell? ⟨b, 1, none⟩ = some x1 ∧ W.cell? ⟨b, 2, none⟩ = some x2 ∧ W.cell? ⟨b, 3, none⟩ = some x3 ∧ W.cell? ⟨b, 4, none⟩ = some x4 ∧ W.cell? ⟨b, 5, none⟩ = some x5 ∧ W.cell? ⟨b, 6, none⟩ = some x6 := by
 refine ⟨?_, ?_, ?_, ?_, ?_, ?_, ?_⟩ <;> (simp only [World.cell?]; rw [show W.heap[b]? = _ from h]; rfl)
theorem aG.free (h : aG W b x0 x1 x2 x3 x4 x5 x6) (o : Nat) : W.frozen? ⟨b, o, none⟩ = false := by simp [World.frozen?, show W.heap[b]? = _ from h]
theorem aG.set0 (h : aG W b x0 x1 x2 x3 x4 x5 x6) (y : Value) : aG (W.setCell ⟨b, 0, none⟩ y) b y x1 x2 x3 x4 x5 x6 := by
 unfold aG at h ⊢
 rw [heap_setCell_same W b 0 _ 37 y h]
 rfl
theorem aG.set1 (h : aG W b x0 x1 x2 x3 x4 x5 x6) (y : Value) : aG (W.setCell ⟨b, 1, none⟩ y) b x0 y x2 x3 x4 x5 x6 := by
 unfold aG at h ⊢
 rw [heap_setCell_same W b 1 _ 37 y h]
 rfl
theorem aG.set2 (h : aG W b x0 x1 x2 x3 x4 x5 x6) (y : Value) : aG (W.setCell ⟨b, 2, none⟩ y) b x0 x1 y x3 x4 x5 x6 := by
 unfold aG at h ⊢
 rw [heap_setCell_same W b 2 _ 37 y h]
 rfl
theorem aG.set3 (h : aG W b x0 x1 x2 x3 x4 x5 x6) (y : Value) : aG (W.setCell ⟨b, 3, none⟩ y) b x0 x1 x2 y x4 x5 x6 := by
 unfold aG at h ⊢
 rw [heap_setCell_same W b 3 _ 37 y h]
 rfl
theorem aG.set4 (h : aG W b x0 x1 x2 x3 x4 x5 x6) (y : Value) : aG (W.setCell ⟨b, 4, none⟩ y) b x0 x1 x2 x3 y x5 x6 := by
 unfold aG at h ⊢
 rw [heap_setCell_same W b 4 _ 37 y h]
 rfl
theorem aG.set5 (h : aG W b x0 x1 x2 x3 x4 x5 x6) (y : Value) : aG (W.setCell ⟨b, 5, none⟩ y) b x0 x1 x2 x3 x4 y x6 := by
 unfold aG at h ⊢
 rw [heap_setCell_same W b 5 _ 37 y h]
 rfl
theorem aG.set6 (h : aG W b x0 x1 x2 x3 x4 x5 x6) (y : Value) : aG (W.setCell ⟨b, 6, none⟩ y) b x0 x1 x2 x3 x4 x5 y := by
 unfold aG at h ⊢
 rw [heap_setCell_same W b 6 _ 37 y h]
 rfl
structure Put7 (W : World) (b : Nat) (y0 y1 y2 y3 y4 y5 y6 : Value) : Prop where
 f0 : W.frozen? ⟨b, 0, none⟩ = false
 c0 : ∃ x, W.cell? ⟨b, 0, none⟩ = some x
 f1 : (W.setCell ⟨b, 0, none⟩ y0).frozen? ⟨b, 1, none⟩ = false
 c1 : ∃ x, (W.setCell ⟨b, 0, none⟩ y0).cell? ⟨b, 1, none⟩ = some x
 f2 : ((W.setCell ⟨b, 0, none⟩ y0).setCell ⟨b, 1, none⟩ y1).frozen? ⟨b, 2, none⟩ = false
 c2 : ∃ x, ((W.setCell ⟨b, 0, none⟩ y0).setCell ⟨b, 1, none⟩ y1).cell? ⟨b, 2, none⟩ = some x
 f3 : (((W.setCell ⟨b, 0, none⟩ y0).setCell ⟨b, 1, none⟩ y1).setCell ⟨b, 2, none⟩ y2).frozen? ⟨b, 3, none⟩ = false
 c3 : ∃ x, (((W.setCell ⟨b, 0, none⟩ y0).setCell ⟨b, 1, none⟩ y1).setCell ⟨b, 2, none⟩ y2).cell? ⟨b, 3, none⟩ = some x
 f4 : ((((W.setCell ⟨b, 0, none⟩ y0).setCell ⟨b, 1, none⟩ y1).setCell ⟨b, 2, none⟩ y2).setCell ⟨b, 3, none⟩ y3).frozen? ⟨b, 4, none⟩ = false
 c4 : ∃ x, ((((W.setCell ⟨b, 0, none⟩ y0).setCell ⟨b, 1, none⟩ y1).setCell ⟨b, 2, none⟩ y2).setCell ⟨b, 3, none⟩ y3).cell? ⟨b, 4, none⟩ = some x
 f5 : (((((W.setCell ⟨b, 0, none⟩ y0).setCell ⟨b, 1, none⟩ y1).setCell ⟨b, 2, none⟩ y2).setCell ⟨b, 3, none⟩ y3).setCell ⟨b, 4, none⟩ y4).frozen? ⟨b, 5, none⟩ = false
 c5 : ∃ x, (((((W.setCell ⟨b, 0, none⟩ y0).setCell ⟨b, 1, none⟩ y1).setCell ⟨b, 2, none⟩ y2).setCell ⟨b, 3, none⟩ y3).setCell ⟨b, 4, none⟩ y4).cell? ⟨b, 5, none⟩ = some x
 f6 : ((((((W.setCell ⟨b, 0, none⟩ y0).setCell ⟨b, 1, none⟩ y1).setCell ⟨b, 2, none⟩ y2).setCell ⟨b, 3, none⟩ y3).setCell ⟨b, 4, none⟩ y4).setCell ⟨b, 5, none⟩ y5).frozen? ⟨b, 6, none⟩ = false
 c6 : ∃ x, ((((((W.setCell ⟨b, 0, none⟩ y0).setCell ⟨b, 1, none⟩ y1).setCell ⟨b, 2, none⟩ y2).setCell ⟨b, 3, none⟩ y3).setCell ⟨b, 4, none⟩ y4).setCell ⟨b, 5, none⟩ y5).cell? ⟨b, 6, none⟩ = some x
 fin : aG ((((((((W.setCell ⟨b, 0, none⟩ y0).setCell ⟨b, 1, none⟩ y1).setCell ⟨b, 2, none⟩ y2).setCell ⟨b, 3, none⟩ y3).setCell ⟨b, 4, none⟩ y4).setCell ⟨b, 5, none⟩ y5).setCell ⟨b, 6, none⟩ y6)) b y0 y1 y2 y3 y4 y5 y6
theorem aG.put (h : aG W b x0 x1 x2 x3 x4 x5 x6) (y0 y1 y2 y3 y4 y5 y6 : Value) : Put7 W b y0 y1 y2 y3 y4 y5 y6 :=
 ⟨h.free 0, ⟨_, h.cells.1⟩, (h.set0 y0).free 1, ⟨_, (h.set0 y0).cells.2.1⟩, ((h.set0 y0).set1 y1).free 2, ⟨_, ((h.set0 y0).set1 y1).cells.2.2.1⟩, (((h.set0 y0).set1 y1).set2 y2).free 3, ⟨_, (((h.set0 y0).set1 y1).set2 y2).cells.2.2.2.1⟩, ((((h.set0 y0).set1 y1).set2 y2).set3 y3).free 4, ⟨_, ((((h.set0 y0).set1 y1).set2 y2).set3 y3).cells.2.2.2.2.1⟩, (((((h.set0 y0).set1 y1).set2 y2).set3 y3).set4 y4).free 5, ⟨_, (((((h.set0 y0).set1 y1).set2 y2).set3 y3).set4 y4).cells.2.2.2.2.2.1⟩, ((((((h.set0 y0).set1 y1).set2 y2).set3 y3).set4 y4).set5 y5).free 6, ⟨_, ((((((h.set0 y0).set1 y1).set2 y2).set3 y3).set4 y4).set5 y5).cells.2.2.2.2.2.2⟩, (((((((h.set0 y0).set1 y1).set2 y2).set3 y3).set4 y4).set5 y5).set6 y6)⟩
theorem loadJ (h : aG W b x0 x1 x2 x3 x4 x5 x6) : (loadVar 37 ⟨b, 0, none⟩).run Tryz.prog W = .ok (.agg #[x0, x1, x2, x3, x4, x5, x6]) W := by
 obtain ⟨h0, h1, h2, h3, h4, h5, h6⟩ := h.cells
 have a30 := Tryz.isAgg37
 have z30 := Tryz.sizeOf37
 have hc := run_loadCells_list (P := Tryz.prog) W ⟨b, 0, none⟩ [x0, x1, x2, x3, x4, x5, x6] (fun j v hj => by
  match j, hj with
  | 0, hj => simp at hj; subst hj; simpa [Addr.add] using h0
  | 1, hj => simp at hj; subst hj; simpa [Addr.add] using h1
  | 2, hj => simp at hj; subst hj; simpa [Addr.add] using h2
  | 3, hj => simp at hj; subst hj; simpa [Addr.add] using h3
  | 4, hj => simp at hj; subst hj; simpa [Addr.add] using h4
  | 5, hj => simp at hj; subst hj; simpa [Addr.add] using h5
  | 6, hj => simp at hj; subst hj; simpa [Addr.add] using h6)
 simp [loadVar, a30, z30]
 have hc' : (loadCells ⟨b, 0, none⟩ 7).run Tryz.prog W = .ok #[x0, x1, x2, x3, x4, x5, x6] W := hc
 rw [hc']
 rfl
end
theorem aM.grown {W W' : World} {base b : Nat} {v : Value} {l : List Int} (h : aM W base v l) (hg : W.grownBy W' (some b)) (hb : b < base) : aM W' base v l := by
 refine ⟨h.1, ?_⟩
 rcases h.2 with ⟨h1, h2⟩ | ⟨g, cap, cur, h1, h2, h3, h4⟩
 ·exact .inl ⟨h1, h2⟩
 ·exact .inr ⟨g, cap, cur, h1, h2, by rw [hg.block g (Array.getElem?_eq_some_iff.1 h3).1 (fun e => by injection e with e; omega)]; exact h3, h4⟩
end Go.Proofs.YtclcgakfmcofaaaGreatDoor
namespace Go.Proofs.YtclcgakfmcofaaaGreatDoor
open List (setIfInBounds_toArray set_cons_zero set_cons_succ)
open Go.ChangeShapes Go.WideShapes Go.ChangeAt Go.RowKit Go.Deep
open Go.ChangeMaps (open_string shut_string)
theorem Tryz.cellsJob14 : Tryz.prog.cellsOf 37 = 7 := by kernel_rfl
theorem Tryz.bytesJob14 : Tryz.prog.bytesOf 37 = 80 := by kernel_rfl
theorem Tryz.cellsJobs14 : Tryz.prog.cellsOf 28 = 1 := by kernel_rfl
theorem Tryz.cellsAsk14 : Tryz.prog.cellsOf 30 = 7 := by kernel_rfl
theorem Tryz.cells3J : Tryz.prog.cellsOf 3 = 1 := by kernel_rfl
theorem Tryz.cells9J : Tryz.prog.cellsOf 9 = 1 := by kernel_rfl
abbrev Jl := Jb × List Int
abbrev jl0 : Jl := (j00, [])
structure WfJ (x : Jl) : Prop where
 id : bw x.1.id
 agg : bw x.1.agg
 bound : bw x.1.bound
 fuel : bw x.1.fuel
 parts : bw x.1.parts
 prog : x.1.prog.size ≤ 140737488351232
 len : x.2.length ≤ 17592186043904
 nums : ∀ y ∈ x.2, bw y
def JbAt (W : World) (b o : Nat) (x : Jl) : Prop := ∃ a c, W.cell? ⟨b, o, none⟩ = some (.int .i64 x.1.id) ∧ W.cell? ⟨b, o + 1, none⟩ = some (.string x.1.prog) ∧ W.cell? ⟨b, o + 2, none⟩ = some (.int .i64 x.1.agg) ∧ W.cell? ⟨b, o + 3, none⟩ = some (.int .i64 x.1.bound) ∧ W.cell? ⟨b, o + 4, none⟩ = some (.int .i64 x.1.fuel) ∧ W.cell? ⟨b, o + 5, none⟩ = some (.slice a x.2.length c) ∧ W.cell? ⟨b, o + 6, none⟩ = some (.int .i64 x.1.parts) ∧ NS W (.slice a x.2.length c) x.2
def JbsAt (W : World) (b off : Nat) (L : List Jl) : Prop := ∀ (i : Nat) (x : Jl), L[i]? = some x → JbAt W b (off + i * 7) x
def JS (W : World) (v : Value) (L : List Jl) : Prop := ∃ a cap, v = .slice a L.length cap ∧ (L = [] ∨ ∃ b off, a = some ⟨b, off, none⟩ ∧ b < W.heap.size ∧ JbsAt W b off L)
theorem JbAt.below {W W' : World} {b o : Nat} {x : Jl} (h : JbAt W b o x) (hb : Below W.heap.size W W') (hlt : b < W.heap.size) : JbAt W' b o x := by
 obtain ⟨a, c, h0, h1, h2, h3, h4, h5, h6, h7⟩ := h
 exact ⟨a, c, (hb.cell (p := ⟨b, _, none⟩) hlt).trans h0, (hb.cell (p := ⟨b, _, none⟩) hlt).trans h1, (hb.cell (p := ⟨b, _, none⟩) hlt).trans h2, (hb.cell (p := ⟨b, _, none⟩) hlt).trans h3, (hb.cell (p := ⟨b, _, none⟩) hlt).trans h4, (hb.cell (p := ⟨b, _, none⟩) hlt).trans h5, (hb.cell (p := ⟨b, _, none⟩) hlt).trans h6, h7.below hb⟩
theorem JbsAt.below {W W' : World} {b off : Nat} {L : List Jl} (h : JbsAt W b off L) (hb : Below W.heap.size W W') (hlt : b < W.heap.size) : JbsAt W' b off L := fun i x hx => (h i x hx).below hb hlt
theorem JS.below {W W' : World} {v : Value} {L : List Jl} (h : JS W v L) (hb : Below W.heap.size W W') : JS W' v L := by
 obtain ⟨a, cap, rfl, h⟩ := h
 refine ⟨a, cap, rfl, ?_⟩
 rcases h with h | ⟨b, off, rfl, hlt, h⟩
 ·exact .inl h
 ·exact .inr ⟨b, off, rfl, Nat.lt_of_lt_of_le hlt hb.size, h.below hb hlt⟩
theorem WfJ.inJ {W : World} {x : Jl} {v : Value} (h : WfJ x) (hn : NS W v x.2) (hp : x.1.prog.size ≤ 100000) (hl : x.2.length ≤ 100000) : InJ W x.1 v x.2 := ⟨hn, hl, hp, h.id, h.agg, h.bound, h.fuel, h.parts, h.nums⟩
theorem open_jobs {H : Type} {enc : TypeId × Value → H} {W : World} {fuel : Nat} {v : Value} {d : DataW H × List MemPlace} (hf : DataW.trod enc Tryz.prog W 0 (fun _ => true) true fuel 28 [v] = some d) (hlg : fb Tryz.prog 28 d.1) :
  ∃ (l : List Jl) (a : Option Addr) (cap : Nat), v = .slice a l.length cap ∧ (l.length ≤ cap ∧ cap ≤ 9223372036854775807) ∧ l.length ≤ 17592186043904 ∧ (∀ s ∈ l, WfJ s) ∧ JS W (.slice a l.length cap) l := by
 rcases open_slice Tryz.underlying28 hf with ⟨hcs, _⟩ | ⟨x, len, c, m, n, D, Pl, hcs, _, hl, hm, hmm, hx, hel⟩
 ·simp at hcs
  subst hcs
  exact ⟨[], none, 0, rfl, by simp, Nat.zero_le _, fun x hx => by simp at hx, none, 0, rfl, .inl rfl⟩
 ·simp at hcs
  subst hcs
  simp at hmm
  subst hmm
  subst hx
  obtain ⟨hlg1, hlg2⟩ := gI Tryz.underlying28 hlg
  rw [Tryz.bytesJob14] at hlg1
  simp only [List.length_map, List.length_range] at hlg1
  unfold reachBytes at hlg1
  have hlg3 : ∀ i, i < len → fb Tryz.prog 37 (D i) := fun i hi => hlg2 _ (List.mem_map.2 ⟨i, List.mem_range.2 hi, rfl⟩)
  clear hlg2
  by_cases h0 : len = 0
  ·subst h0
   exact ⟨[], _, _, rfl, ⟨Nat.zero_le _, by unfold maxLen at hm; omega⟩, Nat.zero_le _, fun x hx => by simp at hx, _, _, rfl, .inl rfl⟩
  obtain ⟨b, off, spot⟩ := x
  rw [Tryz.cellsJob14] at hel
  have first := hel 0 (by omega)
  obtain ⟨cs, hc, _⟩ := first
  obtain ⟨_, hcl, hcell⟩ := World.cells?_some hc
  have hspot : spot = none := by
   have e := hcell 0 (by omega)
   match cs, hcl with
   | [v0, v1, v2, v3, v4, v5, v6], _ => simpa [Addr.add] using World.cell?_spot e
  subst hspot
  have hb : b < W.heap.size := by simpa [add_plain] using World.cells?_block hc (by decide)
  have hall : ∀ i, i < len → ∃ y : Jl, WfJ y ∧ JbAt W b (off + i * 7) y := by
   intro i hi
   obtain ⟨cs, hc, ht⟩ := hel i (by omega)
   obtain ⟨_, hcl, hcell⟩ := World.cells?_some hc
   obtain ⟨xs, k, hk, hD, _, hxl, hfld⟩ := DataW.trod_struct Tryz.underlying37 ht
   have hg := hlg3 i hi
   injection hD with hD _
   rw [hD] at hg
   match cs, hcl, xs, hxl with
   | [v0, v1, v2, v3, v4, v5, v6], _, [y0, y1, y2, y3, y4, y5, y6], _ =>
    have g0 := hfld 0 _ rfl
    have g1 := hfld 1 _ rfl
    have g2 := hfld 2 _ rfl
    have g3 := hfld 3 _ rfl
    have g4 := hfld 4 _ rfl
    have g5 := hfld 5 _ rfl
    have g6 := hfld 6 _ rfl
    simp [Tryz.cells3J, Tryz.cells9J, Tryz.cellsInts] at g0 g1 g2 g3 g4 g5 g6
    have hg1 := cD Tryz.underlying37 hg (j := 1) (u := 9) (d := y1.1) rfl rfl
    have hg5 := cD Tryz.underlying37 hg (j := 5) (u := 25) (d := y5.1) rfl rfl
    obtain ⟨n0, e0, _, w0⟩ := DataW.trod_int Tryz.underlying3 g0
    obtain ⟨s1, e1, x1, _⟩ := DataW.trod_string Tryz.underlying9 g1
    obtain ⟨n2, e2, _, w2⟩ := DataW.trod_int Tryz.underlying3 g2
    obtain ⟨n3, e3, _, w3⟩ := DataW.trod_int Tryz.underlying3 g3
    obtain ⟨n4, e4, _, w4⟩ := DataW.trod_int Tryz.underlying3 g4
    obtain ⟨n6, e6, _, w6⟩ := DataW.trod_int Tryz.underlying3 g6
    rw [x1] at hg1
    have w1 := fU hg1
    unfold reachBytes at w1
    obtain ⟨l, a, cap', e5, ⟨hcc, _⟩, hll, hwl, hns⟩ := kP g5 hg5
    simp at e0 e1 e2 e3 e4 e6
    subst e0 e1 e2 e3 e4 e5 e6
    have a0 := hcell 0 (by omega)
    have a1 := hcell 1 (by omega)
    have a2 := hcell 2 (by omega)
    have a3 := hcell 3 (by omega)
    have a4 := hcell 4 (by omega)
    have a5 := hcell 5 (by omega)
    have a6 := hcell 6 (by omega)
    rw [add_add, add_plain] at a0 a1 a2 a3 a4 a5 a6
    exact ⟨(⟨n0, s1, n2, n3, n4, n6⟩, l), ⟨bW w0, bW w2, bW w3, bW w4, bW w6, by simp only; omega, hll, hwl⟩, a, cap', by simpa using a0, by simpa [Nat.add_assoc] using a1, by simpa [Nat.add_assoc] using a2, by simpa [Nat.add_assoc] using a3, by simpa [Nat.add_assoc] using a4, by simpa [Nat.add_assoc] using a5, by simpa [Nat.add_assoc] using a6, hns⟩
  let g : Nat → Jl := fun i => if h : i < len then (hall i h).choose else jl0
  have hg' : ∀ i (h : i < len), g i = (hall i h).choose := fun i h => by simp [g, h]
  refine ⟨(List.range len).map g, _, _, by rw [List.length_map, List.length_range], ⟨by simp; omega, by unfold maxLen at hm; omega⟩, by simp; omega, ?_, _, _, rfl, .inr ⟨b, off, rfl, hb, ?_⟩⟩
  ·intro x hx
   obtain ⟨i, hi, rfl⟩ := List.mem_map.1 hx
   rw [List.mem_range] at hi
   rw [hg' i hi]
   exact (hall i hi).choose_spec.1
  ·intro i x hx
   have hi : i < len := by have := (List.getElem?_eq_some_iff.1 hx).1; simpa using this
   simp [hi] at hx
   subst hx
   rw [hg' i hi]
   exact (hall i hi).choose_spec.2
structure In14 (W : World) (c : aX) (vp vl vj : Value) (ids : List Int) (L : List Jl) (x : ByteArray) : Prop where
 s : In12 W c vp vl ids
 js : JS W vj L
 len : L.length ≤ 17592186043904
 wf : ∀ y ∈ L, WfJ y
 jcap : ∃ a k, vj = .slice a L.length k ∧ L.length ≤ k ∧ k ≤ 9223372036854775807
 x : x.size ≤ 140737488351232
theorem In14.below {W W' : World} {c : aX} {vp vl vj : Value} {ids : List Int} {L : List Jl} {x : ByteArray} (h : In14 W c vp vl vj ids L x) (hb : Below W.heap.size W W') : In14 W' c vp vl vj ids L x := ⟨h.s.below hb, h.js.below hb, h.len, h.wf, h.jcap, h.x⟩
abbrev askV14 (c : aX) (vp vl vj : Value) (x : ByteArray) : Value := .agg #[.int .i64 c.sites, vp, .int .i64 c.again, .int .i64 c.over, vl, vj, .string x]
theorem open_ask14 {H : Type} {enc : TypeId × Value → H} {W : World} {base : Nat} {v : Value} {d : DataW H} {p : List MemPlace} (hv : Value.okWide Tryz.prog W .any base 30 v) (h : DataW.Trod enc Tryz.prog W 0 (fun _ => true) true 30 v d p) (hlg : fb Tryz.prog 30 d) :
  ∃ c vp vl vj ids L x, v = askV14 c vp vl vj x ∧ In14 W c vp vl vj ids L x := by
 obtain ⟨cs, rfl, hcs⟩ := okWide_struct Tryz.underlying30 hv
 rw [Tryz.cellsAsk14] at hcs
 obtain ⟨fuel, hf⟩ := h
 obtain ⟨xs, k, _, hD, _, hxl, hfld⟩ := DataW.trod_struct Tryz.underlying30 hf
 injection hD with hD _
 rw [hD] at hlg
 obtain ⟨cl⟩ := cs
 match cl, hcs, xs, hxl with
 | [v0, v1, v2, v3, v4, v5, v6], _, [y0, y1, y2], _ =>
  have gS := hfld 0 _ rfl
  have gJ := hfld 1 _ rfl
  have gX := hfld 2 _ rfl
  have hgS := cD Tryz.underlying30 hlg (j := 0) (u := 27) (d := y0.1) rfl rfl
  have hgJ := cD Tryz.underlying30 hlg (j := 1) (u := 28) (d := y1.1) rfl rfl
  have hgX := cD Tryz.underlying30 hlg (j := 2) (u := 9) (d := y2.1) rfl rfl
  simp [Tryz.cellsAsk12, Tryz.cellsJobs14, Tryz.cells9J, Value.cells] at gS gJ gX
  obtain ⟨s6, e6, d6, w6⟩ := DataW.trod_string Tryz.underlying9 gX
  rw [d6] at hgX
  have q6 := fU hgX
  unfold reachBytes at q6
  obtain ⟨jl, ja, jc, ej, jcap, r1, r2, r3⟩ := open_jobs gJ hgJ
  obtain ⟨xs'', k'', _, hD'', _, hxl'', hfld''⟩ := DataW.trod_struct Tryz.underlying27 gS
  rw [hD''] at hgS
  match xs'', hxl'' with
  | [u0, u1], _ =>
   have g0 := hfld'' 0 _ rfl
   have g1 := hfld'' 1 _ rfl
   have hg0 := cD Tryz.underlying27 hgS (j := 0) (u := 24) (d := u0.1) rfl rfl
   have hg1 := cD Tryz.underlying27 hgS (j := 1) (u := 25) (d := u1.1) rfl rfl
   simp [Tryz.cellsCfg, Tryz.cellsInts] at g0 g1
   obtain ⟨xs', k', _, hD', _, hxl', hfld'⟩ := DataW.trod_struct Tryz.underlying24 g0
   rw [hD'] at hg0
   match xs', hxl' with
   | [z0, z1, z2, z3], _ =>
    have g2 := hfld' 0 _ rfl
    have g3 := hfld' 1 _ rfl
    have g4 := hfld' 2 _ rfl
    have g5 := hfld' 3 _ rfl
    have hg3 := cD Tryz.underlying24 hg0 (j := 1) (u := 22) (d := z1.1) rfl rfl
    simp [Tryz.cells3J, Tryz.cellsSplits] at g2 g3 g4 g5
    obtain ⟨n0, e0, _, w0⟩ := DataW.trod_int Tryz.underlying3 g2
    obtain ⟨n2, e2, _, w2⟩ := DataW.trod_int Tryz.underlying3 g4
    obtain ⟨n3, e3, _, w3⟩ := DataW.trod_int Tryz.underlying3 g5
    obtain ⟨sl, sa, sc, es, scap, q1, q2, q3⟩ := open_splits g3 hg3
    obtain ⟨il, ia, ic, ei, icap, t1, t2, t3⟩ := kP g1 hg1
    simp at e0 e2 e3 e6
    subst e0 e2 e3 e6 es ei ej
    exact ⟨⟨n0, sl, n2, n3⟩, _, _, _, il, jl, s6, rfl, ⟨⟨⟨bW w0, bW w2, bW w3, q3, q1, q2⟩, ⟨sa, sc, rfl, scap⟩, t3, t1, t2, ⟨ia, ic, rfl, icap⟩⟩, r3, r1, r2, ⟨ja, jc, rfl, jcap⟩, by omega⟩⟩
end Go.Proofs.YtclcgakfmcofaaaGreatDoor
namespace Go.Proofs.YtclcgakfmcofaaaGreatDoor
open List (setIfInBounds_toArray set_cons_zero set_cons_succ)
open Go.RowKit
noncomputable def al (c : aX) (j : Jb) (l : List Int) : Int :=
 if (cU c && fL j l) = false then 1 else match dw j.prog with
 | .err e => e
 | .ok f _ _ => if cE f ≠ 0 then cE f else (aR c.splits l).2
def dH (c : aX) (i : Int) : List Rc := (cV c [i]).1
noncomputable def eX (c : aX) (j : Jb) : List Int → List Rc → List Rc × Int
 | [], acc => (acc, 0)
 | i :: l, acc => if (ap j (dH c i)).2 ≠ 0 then ([], (ap j (dH c i)).2) else eX c j l (acc ++ (ap j (dH c i)).1)
def togP (agg bound parts : Int) (m : List Rc × Int) : ByteArray × Int :=
 if m.2 ≠ 0 then (⟨#[]⟩, m.2) else if (aB agg bound.toNat m.1).2 ≠ 0 then (⟨#[]⟩, (aB agg bound.toNat m.1).2) else bM agg parts (aB agg bound.toNat m.1).1
noncomputable def bf (c : aX) (j : Jb) (l : List Int) : ByteArray × Int := togP j.agg j.bound j.parts (eX c j l [])
noncomputable def iI (c : aX) (j : Jb) (l : List Int) : List Int := (l.map fun i => (aI j (dH c i)).2).filter (fun e => decide (e ≠ 0))
noncomputable def cX (c : aX) (j : Jb) (l : List Int) : List Int := once (iI c j l)
noncomputable def dq (c : aX) (j : Jb) (l : List Int) : ByteArray × Int := if (bf c j l).2 = 0 ∧ 2 ∈ cX c j l then (⟨#[]⟩, 2) else bf c j l
noncomputable def ey (c : aX) (j : Jb) (l : List Int) : List Int := if cX c j l ≠ [] then cX c j l else if (bf c j l).2 ≠ 0 then [(bf c j l).2] else []
noncomputable def dV (c : aX) (j : Jb) (l : List Int) : ByteArray × Int := if al c j l ≠ 0 then (⟨#[]⟩, al c j l) else dq c j l
noncomputable def dh (c : aX) (j : Jb) (l : List Int) : List Int := if al c j l ≠ 0 then [al c j l] else ey c j l
theorem mem_apG {c : aX} {j : Jb} {l : List Int} {e : Int} : e ∈ iI c j l ↔ e ≠ 0 ∧ ∃ i ∈ l, (aI j (dH c i)).2 = e := by
 unfold iI
 simp only [List.mem_filter, List.mem_map, decide_eq_true_eq]
 constructor
 ·rintro ⟨⟨i, hi, rfl⟩, h⟩; exact ⟨h, i, hi, rfl⟩
 ·rintro ⟨h, i, hi, rfl⟩; exact ⟨⟨i, hi, rfl⟩, h⟩
theorem kT {c : aX} {j : Jb} {l : List Int} {e : Int} : e ∈ cX c j l ↔ e ≠ 0 ∧ ∃ i ∈ l, (aI j (dH c i)).2 = e := by unfold cX; rw [mb, mem_apG]
noncomputable def allM (c : aX) (j : Jb) (l : List Int) : List (List Rc) := l.map fun i => (ap j (dH c i)).1
theorem mW (c : aX) (j : Jb) : ∀ (l : List Int) (acc : List Rc), ((eX c j l acc).2 = 0 ∧ (eX c j l acc).1 = acc ++ (allM c j l).flatten ∧ ∀ i ∈ l, (ap j (dH c i)).2 = 0) ∨ ((eX c j l acc).2 ≠ 0 ∧ (eX c j l acc).1 = [] ∧ ∃ i ∈ l, (ap j (dH c i)).2 = (eX c j l acc).2)
 | [], acc => .inl ⟨rfl, by simp [eX, allM], by simp⟩
 | i :: l, acc => by
  rw [eX]
  by_cases h : (ap j (dH c i)).2 ≠ 0
  ·rw [if_pos h]
   exact .inr ⟨h, rfl, i, by simp, rfl⟩
  ·rw [if_neg h]
   rcases mW c j l (acc ++ (ap j (dH c i)).1) with ⟨h1, h2, h3⟩ | ⟨h1, h2, k, hk, h3⟩
   ·refine .inl ⟨h1, ?_, fun k hk => ?_⟩
    ·rw [h2]; simp [allM]
    ·rcases List.mem_cons.1 hk with rfl | hk
     ·simpa using h
     ·exact h3 k hk
   ·exact .inr ⟨h1, h2, k, by simp [hk], h3⟩
theorem mX (agg n : Int) (l : List Rw) : (bM agg n l).2 = 0 ∨ bM agg n l = (⟨#[]⟩, 2) := by unfold bM; split <;> simp
theorem mY (agg bound : Int) (v : Value) (l : List Rw) (w : World) (h : WS w v l) (hl : l.length ≤ 100000) (hls : ∀ r ∈ l, r.2.2.length ≤ 100000) (hcap : iD v) :
  Calls Tryz.prog 43 #[.int .i64 agg, .int .i64 bound, v] w fun e w' => e = .returned (.int .i64 (iz (ce agg bound l))) ∧ Below w.heap.size w w' := by
 have H1 := ae (fun W => my agg bound W)
 have HS := ae h
 obtain ⟨a, cap, rfl, hsh⟩ := h
 cases hw : aJ agg bound with
 | false =>
  rw [hw] at H1
  rw [show ce agg bound l = false by unfold ce; rw [hw, Bool.false_and]]
  go_enter Tryz.func43, Tryz.ntmps43
  go_wp2_with (go_at_call 78; refine (H1.out _).mono ?_; rintro e W1 ⟨rfl, hb1⟩)
  go_ret
  exact ⟨rfl, hb1⟩
 | true =>
  rw [hw] at H1
  go_enter Tryz.func43, Tryz.ntmps43
  go_wp2_with (go_at_call 78; refine (H1.out _).mono ?_; rintro e W1 ⟨rfl, hb1⟩)
  go_loopw [15] (fun i wr => ∃ k : Nat, k ≤ l.length ∧ i = .int .i64 k ∧ kC agg bound l k ∧ Below w.heap.size w wr) (fun i _ => l.length - (intOf i).toNat)
  case atStart => exact ⟨0, by omega, rfl, kC.start _ _ _, hb1⟩
  case round =>
   clear hb1
   rename World => w0
   obtain ⟨k, hk, rfl, hok, hbel⟩ := hrel
   have hsz := hbel.size
   by_cases hlt : k < l.length
   ·obtain ⟨⟨⟨ya, yb⟩, yn, yl⟩, hy⟩ := ak hlt
    rcases hsh with rfl | ⟨b, off, rfl, hb, hat⟩
    ·simp at hlt
    have hyl : yl.length ≤ 100000 := hls _ (List.mem_of_getElem? hy)
    obtain ⟨c0, c1, c2, s1, p1, c3, n1⟩ := (hat.below hbel hb) k _ hy
    simp only at c0 c1 c2 c3 n1
    obtain ⟨Wa, hWa⟩ : ∃ Wa : World, Wa = w0.alloc (.cells #[.int .i64 ya, .string yb, .int .i64 yn, .slice s1 yl.length p1] 129) := ⟨_, rfl⟩
    have hba : Below w0.heap.size w0 Wa := by rw [hWa]; exact (Below.refl _ _).alloc (Nat.le_refl _) _
    have B4 : bF Wa w0.heap.size (.int .i64 ya) (.string yb) (.int .i64 yn) (.slice s1 yl.length p1) := by rw [hWa]; exact bF.new w0 _ _ _ _
    have HA := ae hWa.symm
    have HR := ae (show ∀ W, Below Wa.heap.size Wa W → W.cell? ⟨w0.heap.size, 0, none⟩ = some (.int .i64 ya) ∧ W.cell? ⟨w0.heap.size, 1, none⟩ = some (.string yb) ∧ W.cell? ⟨w0.heap.size, 2, none⟩ = some (.int .i64 yn) ∧ W.cell? ⟨w0.heap.size, 3, none⟩ = some (.slice s1 yl.length p1) ∧ Below Wa.heap.size Wa W from fun W hW =>
     ⟨(B4.below hW).cells.1, (B4.below hW).cells.2.1, (B4.below hW).cells.2.2.1, (B4.below hW).cells.2.2.2.1, hW⟩)
    have hbw : Below w.heap.size w Wa := hbel.trans (hba.mono hsz)
    have HC1 := ae (fun W => eH (ya, yb) W)
    have HC2 := ae (fun W (hW : Below Wa.heap.size Wa W) => eB agg bound _ (yn, yl) W ⟨s1, p1, rfl, (n1.below hba).below hW⟩ hyl)
    have HC3 := ae (fun W (hW : Below Wa.heap.size Wa W) => iE (.slice (some ⟨b, off, none⟩) k cap) (l.take k) (ya, yb) W (WS.take (HS.out.below (ag hbw hW)) k (by omega) cap) (by simp; omega))
    have HBW := ae hbw
    have hkc : k ≤ cap := Nat.le_trans hk hcap
    have hkl : k ≤ l.length := hk
    have HST := ae (fun (h1 : yb.size ≤ 64) (h2 : fd agg bound (yn, yl) = true) (h3 : dW (l.take k) (ya, yb) = true) => hok.step hy h1 h2 h3)
    have HBAD := ae (fun (h : ¬ (yb.size ≤ 64 ∧ fd agg bound (yn, yl) = true ∧ dW (l.take k) (ya, yb) = true)) => hok.bad hy h)
    clear hWa hbel hat n1 hba hbw B4 hy hok hcap
    by_cases hq1 : yb.size ≤ 64
    ·rw [if_pos (show (ya, yb).2.size ≤ 64 from hq1)] at HC1
     cases hq2 : fd agg bound (yn, yl) with
     | true =>
      rw [hq2, show iz true = 0 from rfl] at HC2
      cases hq3 : dW (l.take k) (ya, yb) with
      | true =>
      rw [hq3] at HC3
      have HO := ae (HST.out hq1 hq2 hq3)
      clear hq1 hq2 hq3 HST HBAD
      go_wp2_with fail
      rw [HA.out]
      go_region_held3 (fun W => W.cell? ⟨w0.heap.size, 0, none⟩ = some (.int .i64 ya) ∧ W.cell? ⟨w0.heap.size, 1, none⟩ = some (.string yb) ∧ W.cell? ⟨w0.heap.size, 2, none⟩ = some (.int .i64 yn) ∧ W.cell? ⟨w0.heap.size, 3, none⟩ = some (.slice s1 yl.length p1) ∧ Below Wa.heap.size Wa W)
       (first | exact HR.out _ (Below.refl _ _).drew | exact HR.out _ (ag (Below.refl Wa.heap.size Wa).drew hb1) | exact HR.out _ (ag (ag (Below.refl Wa.heap.size Wa).drew hb1) hb2) | exact HR.out _ (ag (ag (ag (Below.refl Wa.heap.size Wa).drew hb1) hb2) hb3))
       (first
        | (go_at_call 79; refine (HC1.out _).mono ?_; rintro e W1 ⟨rfl, hb1⟩)
        | (go_at_call 80; refine (HC2.out _ (‹_ ∧ _ ∧ _ ∧ _ ∧ Below Wa.heap.size Wa _›).2.2.2.2).mono ?_; rintro e W2 ⟨rfl, hb2⟩)
        | (go_at_call 81; refine (HC3.out _ (‹_ ∧ _ ∧ _ ∧ _ ∧ Below Wa.heap.size Wa _›).2.2.2.2).mono ?_; rintro e W3 ⟨rfl, hb3⟩))
      go_wp2
      go_roundw
      case rel => exact ⟨k + 1, by omega, by go_num, HO.out, ag HBW.out (ag (ag (ag (Below.refl Wa.heap.size Wa).drew hb1) hb2) hb3)⟩
      case measure => simp [intOf]; omega
      | false =>
      rw [hq3] at HC3
      have HO := ae (HBAD.out (fun h => by rw [hq3] at h; exact absurd h.2.2 (by decide)))
      clear hq1 hq2 hq3 HST HBAD
      go_wp2_with fail
      rw [HA.out]
      go_region_held3 (fun W => W.cell? ⟨w0.heap.size, 0, none⟩ = some (.int .i64 ya) ∧ W.cell? ⟨w0.heap.size, 1, none⟩ = some (.string yb) ∧ W.cell? ⟨w0.heap.size, 2, none⟩ = some (.int .i64 yn) ∧ W.cell? ⟨w0.heap.size, 3, none⟩ = some (.slice s1 yl.length p1) ∧ Below Wa.heap.size Wa W)
       (first | exact HR.out _ (Below.refl _ _).drew | exact HR.out _ (ag (Below.refl Wa.heap.size Wa).drew hb1) | exact HR.out _ (ag (ag (Below.refl Wa.heap.size Wa).drew hb1) hb2) | exact HR.out _ (ag (ag (ag (Below.refl Wa.heap.size Wa).drew hb1) hb2) hb3))
       (first
        | (go_at_call 79; refine (HC1.out _).mono ?_; rintro e W1 ⟨rfl, hb1⟩)
        | (go_at_call 80; refine (HC2.out _ (‹_ ∧ _ ∧ _ ∧ _ ∧ Below Wa.heap.size Wa _›).2.2.2.2).mono ?_; rintro e W2 ⟨rfl, hb2⟩)
        | (go_at_call 81; refine (HC3.out _ (‹_ ∧ _ ∧ _ ∧ _ ∧ Below Wa.heap.size Wa _›).2.2.2.2).mono ?_; rintro e W3 ⟨rfl, hb3⟩))
      go_wp2
      go_ret
      exact ⟨by rw [HO.out]; rfl, ag HBW.out (ag (ag (ag (Below.refl Wa.heap.size Wa).drew hb1) hb2) hb3)⟩
     | false =>
      rw [hq2, show iz false = 1 from rfl] at HC2
      have HO := ae (HBAD.out (fun h => by rw [hq2] at h; exact absurd h.2.1 (by decide)))
      clear hq1 hq2 HST HBAD
      obtain ⟨q0, q1, q2, q3, -⟩ := HR.out Wa (Below.refl _ _)
      go_wp2_with fail
      rw [HA.out]
      refine wp_region_any (by kernel_rfl) ?_
      change wpAny _ _ _ _ _ _ _ (World.drew _)
      refine wpAny_take (i := 0) (oi := { dst := some 20, op := Go.Op.fieldAddr 129 (Go.Operand.tmp 8) 0, type := 0, pos := "row.go:20", after := #[], guard := none }) (v := ?v0y1) rfl (by kernel_rfl) (by kernel_rfl) (by kernel_rfl) (fun _ _ _ h => h) (Or.inl ⟨by rfl, ?h0y1⟩) ?r0y1
      case h0y1 => (intro W; go_simp; try with_reducible rfl)
      simp only [Act.put, setIfInBounds_toArray, set_cons_zero, set_cons_succ]
      refine wpAny_ready (rs := [1]) (by kernel_rfl) (by simp) ?_
      refine AllReady.cons (o := { dst := some 21, op := Go.Op.load 124 (Go.Operand.tmp 20), type := 124, pos := "row.go:20", after := #[{ on := 0, ground := Go.Ground.data }], guard := none }) rfl (fun K hK => ?_) AllReady.nil
      go_simp
      refine hK _ _ ?_
      clear hK K
      try simp only [Act.put, setIfInBounds_toArray, set_cons_zero, set_cons_succ]
      refine wpAny_ready (rs := [2]) (by kernel_rfl) (by simp) ?_
      refine AllReady.cons (o := { dst := some 22, op := Go.Op.call { callee := Go.Callee.value (Go.Operand.func 79), args := #[Go.Operand.tmp 21], argTypes := #[124] }, type := 33, pos := "row.go:20", after := #[{ on := 1, ground := Go.Ground.data }], guard := none }) rfl (fun K hK => ?_) AllReady.nil
      go_simp
      refine (HC1.out _).mono ?_
      rintro e W1 ⟨rfl, hb1⟩
      obtain ⟨r0, r1, r2, r3, -⟩ := HR.out _ (ag (Below.refl Wa.heap.size Wa).drew hb1)
      refine hK _ _ ?_
      clear hK K
      try simp only [Act.put, setIfInBounds_toArray, set_cons_zero, set_cons_succ]
      refine wpAny_take (i := 3) (oi := { dst := some 23, op := Go.Op.binOp Go.BinOp.neq 33 (Go.Operand.tmp 22) (Go.Operand.const (Go.Value.int Go.IntKind.i64 0)) 33, type := 4, pos := "row.go:20", after := #[{ on := 2, ground := Go.Ground.data }], guard := none }) (v := ?v3y2) rfl (by kernel_rfl) (by kernel_rfl) (by kernel_rfl) (fun _ _ _ h => h) (Or.inl ⟨by rfl, ?h3y2⟩) ?r3y2
      case h3y2 => (intro W; go_simp; try with_reducible rfl)
      simp only [Act.put, setIfInBounds_toArray, set_cons_zero, set_cons_succ]
      refine wpAny_take (i := 4) (oi := { dst := some 24, op := Go.Op.move (Go.Operand.tmp 23), type := 4, pos := "row.go:20", after := #[{ on := 3, ground := Go.Ground.data }, { on := 2, ground := Go.Ground.chain }], guard := none }) (v := ?v4y3) rfl (by kernel_rfl) (by kernel_rfl) (by kernel_rfl) (fun _ _ _ h => h) (Or.inl ⟨by rfl, ?h4y3⟩) ?r4y3
      case h4y3 => (intro W; go_simp; try with_reducible rfl)
      simp only [Act.put, setIfInBounds_toArray, set_cons_zero, set_cons_succ]
      refine wpAny_take (i := 5) (oi := { dst := some 25, op := Go.Op.move (Go.Operand.tmp 0), type := 3, pos := "row.go:20", after := #[{ on := 4, ground := Go.Ground.guard }], guard := some (4, false) }) (v := ?v5y4) rfl (by kernel_rfl) (by kernel_rfl) (by kernel_rfl) (fun _ _ _ h => h) (Or.inl ⟨by rfl, ?h5y4⟩) ?r5y4
      case h5y4 => (intro W; go_simp; try with_reducible rfl)
      simp only [Act.put, setIfInBounds_toArray, set_cons_zero, set_cons_succ]
      refine wpAny_take (i := 6) (oi := { dst := some 26, op := Go.Op.move (Go.Operand.tmp 1), type := 3, pos := "row.go:20", after := #[{ on := 4, ground := Go.Ground.guard }], guard := some (4, false) }) (v := ?v6y5) rfl (by kernel_rfl) (by kernel_rfl) (by kernel_rfl) (fun _ _ _ h => h) (Or.inl ⟨by rfl, ?h6y5⟩) ?r6y5
      case h6y5 => (intro W; go_simp; try with_reducible rfl)
      simp only [Act.put, setIfInBounds_toArray, set_cons_zero, set_cons_succ]
      refine wpAny_take (i := 7) (oi := { dst := some 27, op := Go.Op.fieldAddr 129 (Go.Operand.tmp 8) 1, type := 0, pos := "row.go:20", after := #[{ on := 4, ground := Go.Ground.guard }], guard := some (4, false) }) (v := ?v7y6) rfl (by kernel_rfl) (by kernel_rfl) (by kernel_rfl) (fun _ _ _ h => h) (Or.inl ⟨by rfl, ?h7y6⟩) ?r7y6
      case h7y6 => (intro W; go_simp; try with_reducible rfl)
      simp only [Act.put, setIfInBounds_toArray, set_cons_zero, set_cons_succ]
      refine wpAny_ready (rs := [8]) (by kernel_rfl) (by simp) ?_
      refine AllReady.cons (o := { dst := some 28, op := Go.Op.load 127 (Go.Operand.tmp 27), type := 127, pos := "row.go:20", after := #[{ on := 7, ground := Go.Ground.data }, { on := 4, ground := Go.Ground.guard }], guard := some (4, false) }) rfl (fun K hK => ?_) AllReady.nil
      go_simp
      refine hK _ _ ?_
      clear hK K
      try simp only [Act.put, setIfInBounds_toArray, set_cons_zero, set_cons_succ]
      refine wpAny_ready (rs := [9]) (by kernel_rfl) (by simp) ?_
      refine AllReady.cons (o := { dst := some 29, op := Go.Op.call { callee := Go.Callee.value (Go.Operand.func 80), args := #[Go.Operand.tmp 25, Go.Operand.tmp 26, Go.Operand.tmp 28], argTypes := #[3, 3, 127] }, type := 33, pos := "row.go:20", after := #[{ on := 5, ground := Go.Ground.data }, { on := 6, ground := Go.Ground.data }, { on := 8, ground := Go.Ground.data }, { on := 4, ground := Go.Ground.chain }, { on := 4, ground := Go.Ground.guard }], guard := some (4, false) }) rfl (fun K hK => ?_) AllReady.nil
      go_simp
      refine (HC2.out _ (ag (Below.refl Wa.heap.size Wa).drew hb1)).mono ?_
      rintro e W2 ⟨rfl, hb2⟩
      refine hK _ _ ?_
      clear hK K
      try simp only [Act.put, setIfInBounds_toArray, set_cons_zero, set_cons_succ]
      refine wpAny_take (i := 10) (oi := { dst := some 30, op := Go.Op.binOp Go.BinOp.neq 33 (Go.Operand.tmp 29) (Go.Operand.const (Go.Value.int Go.IntKind.i64 0)) 33, type := 4, pos := "row.go:20", after := #[{ on := 9, ground := Go.Ground.data }, { on := 4, ground := Go.Ground.guard }], guard := some (4, false) }) (v := ?v10y7) rfl (by kernel_rfl) (by kernel_rfl) (by kernel_rfl) (fun _ _ _ h => h) (Or.inl ⟨by rfl, ?h10y7⟩) ?r10y7
      case h10y7 => (intro W; go_simp; try with_reducible rfl)
      simp only [Act.put, setIfInBounds_toArray, set_cons_zero, set_cons_succ]
      refine wpAny_take (i := 11) (oi := { dst := some 31, op := Go.Op.pick (Go.Operand.tmp 24) (Go.Operand.const (Go.Value.bool true)) (Go.Operand.tmp 30), type := 4, pos := "row.go:20", after := #[{ on := 4, ground := Go.Ground.data }, { on := 10, ground := Go.Ground.data }], guard := none }) (v := ?v11y8) rfl (by kernel_rfl) (by kernel_rfl) (by kernel_rfl) (fun _ _ _ h => h) (Or.inl ⟨by rfl, ?h11y8⟩) ?r11y8
      case h11y8 => (intro W; go_simp; try with_reducible rfl)
      simp only [Act.put, setIfInBounds_toArray, set_cons_zero, set_cons_succ]
      refine wpAny_take (i := 12) (oi := { dst := some 32, op := Go.Op.move (Go.Operand.tmp 31), type := 4, pos := "row.go:20", after := #[{ on := 11, ground := Go.Ground.data }, { on := 9, ground := Go.Ground.chain }], guard := none }) (v := ?v12y9) rfl (by kernel_rfl) (by kernel_rfl) (by kernel_rfl) (fun _ _ _ h => h) (Or.inl ⟨by rfl, ?h12y9⟩) ?r12y9
      case h12y9 => (intro W; go_simp; try with_reducible rfl)
      simp only [Act.put, setIfInBounds_toArray, set_cons_zero, set_cons_succ]
      refine wpAny_take (i := 13) (oi := { dst := some 33, op := Go.Op.move (Go.Operand.tmp 2), type := 61, pos := "row.go:20", after := #[{ on := 12, ground := Go.Ground.guard }], guard := some (12, false) }) (v := undef) rfl (by kernel_rfl) (by kernel_rfl) (by kernel_rfl) (fun _ _ _ h => h) (Or.inr ⟨by rfl, rfl⟩) ?_
      simp only [Act.put, setIfInBounds_toArray, set_cons_zero, set_cons_succ]
      refine wpAny_take (i := 14) (oi := { dst := some 34, op := Go.Op.move (Go.Operand.tmp 7), type := 3, pos := "row.go:20", after := #[{ on := 12, ground := Go.Ground.guard }], guard := some (12, false) }) (v := undef) rfl (by kernel_rfl) (by kernel_rfl) (by kernel_rfl) (fun _ _ _ h => h) (Or.inr ⟨by rfl, rfl⟩) ?_
      simp only [Act.put, setIfInBounds_toArray, set_cons_zero, set_cons_succ]
      refine wpAny_take (i := 15) (oi := { dst := some 35, op := Go.Op.slice 61 (Go.Operand.tmp 33) none (some (Go.Operand.tmp 34)) none, type := 61, pos := "row.go:20", after := #[{ on := 13, ground := Go.Ground.data }, { on := 14, ground := Go.Ground.data }, { on := 12, ground := Go.Ground.guard }], guard := some (12, false) }) (v := undef) rfl (by kernel_rfl) (by kernel_rfl) (by kernel_rfl) (fun _ _ _ h => h) (Or.inr ⟨by rfl, rfl⟩) ?_
      simp only [Act.put, setIfInBounds_toArray, set_cons_zero, set_cons_succ]
      refine wpAny_take (i := 16) (oi := { dst := some 36, op := Go.Op.fieldAddr 129 (Go.Operand.tmp 8) 0, type := 0, pos := "row.go:20", after := #[{ on := 12, ground := Go.Ground.guard }], guard := some (12, false) }) (v := undef) rfl (by kernel_rfl) (by kernel_rfl) (by kernel_rfl) (fun _ _ _ h => h) (Or.inr ⟨by rfl, rfl⟩) ?_
      simp only [Act.put, setIfInBounds_toArray, set_cons_zero, set_cons_succ]
      refine wpAny_take (i := 17) (oi := { dst := some 37, op := Go.Op.load 124 (Go.Operand.tmp 36), type := 124, pos := "row.go:20", after := #[{ on := 16, ground := Go.Ground.data }, { on := 12, ground := Go.Ground.guard }], guard := some (12, false) }) (v := undef) rfl (by kernel_rfl) (by kernel_rfl) (by kernel_rfl) (fun _ _ _ h => h) (Or.inr ⟨by rfl, rfl⟩) ?_
      simp only [Act.put, setIfInBounds_toArray, set_cons_zero, set_cons_succ]
      refine wpAny_take (i := 18) (oi := { dst := some 38, op := Go.Op.call { callee := Go.Callee.value (Go.Operand.func 81), args := #[Go.Operand.tmp 35, Go.Operand.tmp 37], argTypes := #[61, 124] }, type := 4, pos := "row.go:20", after := #[{ on := 15, ground := Go.Ground.data }, { on := 17, ground := Go.Ground.data }, { on := 12, ground := Go.Ground.chain }, { on := 12, ground := Go.Ground.guard }], guard := some (12, false) }) (v := undef) rfl (by kernel_rfl) (by kernel_rfl) (by kernel_rfl) (fun _ _ _ h => h) (Or.inr ⟨by rfl, rfl⟩) ?_
      simp only [Act.put, setIfInBounds_toArray, set_cons_zero, set_cons_succ]
      refine wpAny_take (i := 19) (oi := { dst := some 39, op := Go.Op.unOp Go.UnOp.not 4 (Go.Operand.tmp 38), type := 4, pos := "row.go:20", after := #[{ on := 18, ground := Go.Ground.data }, { on := 12, ground := Go.Ground.guard }], guard := some (12, false) }) (v := undef) rfl (by kernel_rfl) (by kernel_rfl) (by kernel_rfl) (fun _ _ _ h => h) (Or.inr ⟨by rfl, rfl⟩) ?_
      simp only [Act.put, setIfInBounds_toArray, set_cons_zero, set_cons_succ]
      refine wpAny_take (i := 20) (oi := { dst := some 40, op := Go.Op.pick (Go.Operand.tmp 32) (Go.Operand.const (Go.Value.bool true)) (Go.Operand.tmp 39), type := 4, pos := "row.go:20", after := #[{ on := 12, ground := Go.Ground.data }, { on := 19, ground := Go.Ground.data }], guard := none }) (v := ?v20y10) rfl (by kernel_rfl) (by kernel_rfl) (by kernel_rfl) (fun _ _ _ h => h) (Or.inl ⟨by rfl, ?h20y10⟩) ?r20y10
      case h20y10 => (intro W; go_simp; try with_reducible rfl)
      simp only [Act.put, setIfInBounds_toArray, set_cons_zero, set_cons_succ]
      refine wpAny_done (by kernel_rfl) ?_ _
      go_wp2
      go_ret
      exact ⟨by rw [HO.out]; rfl, ag HBW.out (ag (ag (Below.refl Wa.heap.size Wa).drew hb1) hb2)⟩
    ·rw [if_neg (show ¬ (ya, yb).2.size ≤ 64 from hq1)] at HC1
     have HO := ae (HBAD.out (fun h => hq1 h.1))
     clear hq1 HST HBAD
     obtain ⟨q0, q1, q2, q3, -⟩ := HR.out Wa (Below.refl _ _)
     go_wp2_with fail
     rw [HA.out]
     refine wp_region_any (by kernel_rfl) ?_
     change wpAny _ _ _ _ _ _ _ (World.drew _)
     refine wpAny_take (i := 0) (oi := { dst := some 20, op := Go.Op.fieldAddr 129 (Go.Operand.tmp 8) 0, type := 0, pos := "row.go:20", after := #[], guard := none }) (v := ?v0y11) rfl (by kernel_rfl) (by kernel_rfl) (by kernel_rfl) (fun _ _ _ h => h) (Or.inl ⟨by rfl, ?h0y11⟩) ?r0y11
     case h0y11 => (intro W; go_simp; try with_reducible rfl)
     simp only [Act.put, setIfInBounds_toArray, set_cons_zero, set_cons_succ]
     refine wpAny_ready (rs := [1]) (by kernel_rfl) (by simp) ?_
     refine AllReady.cons (o := { dst := some 21, op := Go.Op.load 124 (Go.Operand.tmp 20), type := 124, pos := "row.go:20", after := #[{ on := 0, ground := Go.Ground.data }], guard := none }) rfl (fun K hK => ?_) AllReady.nil
     go_simp
     refine hK _ _ ?_
     clear hK K
     try simp only [Act.put, setIfInBounds_toArray, set_cons_zero, set_cons_succ]
     refine wpAny_ready (rs := [2]) (by kernel_rfl) (by simp) ?_
     refine AllReady.cons (o := { dst := some 22, op := Go.Op.call { callee := Go.Callee.value (Go.Operand.func 79), args := #[Go.Operand.tmp 21], argTypes := #[124] }, type := 33, pos := "row.go:20", after := #[{ on := 1, ground := Go.Ground.data }], guard := none }) rfl (fun K hK => ?_) AllReady.nil
     go_simp
     refine (HC1.out _).mono ?_
     rintro e W1 ⟨rfl, hb1⟩
     obtain ⟨r0, r1, r2, r3, -⟩ := HR.out _ (ag (Below.refl Wa.heap.size Wa).drew hb1)
     refine hK _ _ ?_
     clear hK K
     try simp only [Act.put, setIfInBounds_toArray, set_cons_zero, set_cons_succ]
     refine wpAny_take (i := 3) (oi := { dst := some 23, op := Go.Op.binOp Go.BinOp.neq 33 (Go.Operand.tmp 22) (Go.Operand.const (Go.Value.int Go.IntKind.i64 0)) 33, type := 4, pos := "row.go:20", after := #[{ on := 2, ground := Go.Ground.data }], guard := none }) (v := ?v3y12) rfl (by kernel_rfl) (by kernel_rfl) (by kernel_rfl) (fun _ _ _ h => h) (Or.inl ⟨by rfl, ?h3y12⟩) ?r3y12
     case h3y12 => (intro W; go_simp; try with_reducible rfl)
     simp only [Act.put, setIfInBounds_toArray, set_cons_zero, set_cons_succ]
     refine wpAny_take (i := 4) (oi := { dst := some 24, op := Go.Op.move (Go.Operand.tmp 23), type := 4, pos := "row.go:20", after := #[{ on := 3, ground := Go.Ground.data }, { on := 2, ground := Go.Ground.chain }], guard := none }) (v := ?v4y13) rfl (by kernel_rfl) (by kernel_rfl) (by kernel_rfl) (fun _ _ _ h => h) (Or.inl ⟨by rfl, ?h4y13⟩) ?r4y13
     case h4y13 => (intro W; go_simp; try with_reducible rfl)
     simp only [Act.put, setIfInBounds_toArray, set_cons_zero, set_cons_succ]
     refine wpAny_take (i := 5) (oi := { dst := some 25, op := Go.Op.move (Go.Operand.tmp 0), type := 3, pos := "row.go:20", after := #[{ on := 4, ground := Go.Ground.guard }], guard := some (4, false) }) (v := undef) rfl (by kernel_rfl) (by kernel_rfl) (by kernel_rfl) (fun _ _ _ h => h) (Or.inr ⟨by rfl, rfl⟩) ?_
     simp only [Act.put, setIfInBounds_toArray, set_cons_zero, set_cons_succ]
     refine wpAny_take (i := 6) (oi := { dst := some 26, op := Go.Op.move (Go.Operand.tmp 1), type := 3, pos := "row.go:20", after := #[{ on := 4, ground := Go.Ground.guard }], guard := some (4, false) }) (v := undef) rfl (by kernel_rfl) (by kernel_rfl) (by kernel_rfl) (fun _ _ _ h => h) (Or.inr ⟨by rfl, rfl⟩) ?_
     simp only [Act.put, setIfInBounds_toArray, set_cons_zero, set_cons_succ]
     refine wpAny_take (i := 7) (oi := { dst := some 27, op := Go.Op.fieldAddr 129 (Go.Operand.tmp 8) 1, type := 0, pos := "row.go:20", after := #[{ on := 4, ground := Go.Ground.guard }], guard := some (4, false) }) (v := undef) rfl (by kernel_rfl) (by kernel_rfl) (by kernel_rfl) (fun _ _ _ h => h) (Or.inr ⟨by rfl, rfl⟩) ?_
     simp only [Act.put, setIfInBounds_toArray, set_cons_zero, set_cons_succ]
     refine wpAny_take (i := 8) (oi := { dst := some 28, op := Go.Op.load 127 (Go.Operand.tmp 27), type := 127, pos := "row.go:20", after := #[{ on := 7, ground := Go.Ground.data }, { on := 4, ground := Go.Ground.guard }], guard := some (4, false) }) (v := undef) rfl (by kernel_rfl) (by kernel_rfl) (by kernel_rfl) (fun _ _ _ h => h) (Or.inr ⟨by rfl, rfl⟩) ?_
     simp only [Act.put, setIfInBounds_toArray, set_cons_zero, set_cons_succ]
     refine wpAny_take (i := 9) (oi := { dst := some 29, op := Go.Op.call { callee := Go.Callee.value (Go.Operand.func 80), args := #[Go.Operand.tmp 25, Go.Operand.tmp 26, Go.Operand.tmp 28], argTypes := #[3, 3, 127] }, type := 33, pos := "row.go:20", after := #[{ on := 5, ground := Go.Ground.data }, { on := 6, ground := Go.Ground.data }, { on := 8, ground := Go.Ground.data }, { on := 4, ground := Go.Ground.chain }, { on := 4, ground := Go.Ground.guard }], guard := some (4, false) }) (v := undef) rfl (by kernel_rfl) (by kernel_rfl) (by kernel_rfl) (fun _ _ _ h => h) (Or.inr ⟨by rfl, rfl⟩) ?_
     simp only [Act.put, setIfInBounds_toArray, set_cons_zero, set_cons_succ]
     refine wpAny_take (i := 10) (oi := { dst := some 30, op := Go.Op.binOp Go.BinOp.neq 33 (Go.Operand.tmp 29) (Go.Operand.const (Go.Value.int Go.IntKind.i64 0)) 33, type := 4, pos := "row.go:20", after := #[{ on := 9, ground := Go.Ground.data }, { on := 4, ground := Go.Ground.guard }], guard := some (4, false) }) (v := undef) rfl (by kernel_rfl) (by kernel_rfl) (by kernel_rfl) (fun _ _ _ h => h) (Or.inr ⟨by rfl, rfl⟩) ?_
     simp only [Act.put, setIfInBounds_toArray, set_cons_zero, set_cons_succ]
     refine wpAny_take (i := 11) (oi := { dst := some 31, op := Go.Op.pick (Go.Operand.tmp 24) (Go.Operand.const (Go.Value.bool true)) (Go.Operand.tmp 30), type := 4, pos := "row.go:20", after := #[{ on := 4, ground := Go.Ground.data }, { on := 10, ground := Go.Ground.data }], guard := none }) (v := ?v11y14) rfl (by kernel_rfl) (by kernel_rfl) (by kernel_rfl) (fun _ _ _ h => h) (Or.inl ⟨by rfl, ?h11y14⟩) ?r11y14
     case h11y14 => (intro W; go_simp; try with_reducible rfl)
     simp only [Act.put, setIfInBounds_toArray, set_cons_zero, set_cons_succ]
     refine wpAny_take (i := 12) (oi := { dst := some 32, op := Go.Op.move (Go.Operand.tmp 31), type := 4, pos := "row.go:20", after := #[{ on := 11, ground := Go.Ground.data }, { on := 9, ground := Go.Ground.chain }], guard := none }) (v := ?v12y15) rfl (by kernel_rfl) (by kernel_rfl) (by kernel_rfl) (fun _ _ _ h => h) (Or.inl ⟨by rfl, ?h12y15⟩) ?r12y15
     case h12y15 => (intro W; go_simp; try with_reducible rfl)
     simp only [Act.put, setIfInBounds_toArray, set_cons_zero, set_cons_succ]
     refine wpAny_take (i := 13) (oi := { dst := some 33, op := Go.Op.move (Go.Operand.tmp 2), type := 61, pos := "row.go:20", after := #[{ on := 12, ground := Go.Ground.guard }], guard := some (12, false) }) (v := undef) rfl (by kernel_rfl) (by kernel_rfl) (by kernel_rfl) (fun _ _ _ h => h) (Or.inr ⟨by rfl, rfl⟩) ?_
     simp only [Act.put, setIfInBounds_toArray, set_cons_zero, set_cons_succ]
     refine wpAny_take (i := 14) (oi := { dst := some 34, op := Go.Op.move (Go.Operand.tmp 7), type := 3, pos := "row.go:20", after := #[{ on := 12, ground := Go.Ground.guard }], guard := some (12, false) }) (v := undef) rfl (by kernel_rfl) (by kernel_rfl) (by kernel_rfl) (fun _ _ _ h => h) (Or.inr ⟨by rfl, rfl⟩) ?_
     simp only [Act.put, setIfInBounds_toArray, set_cons_zero, set_cons_succ]
     refine wpAny_take (i := 15) (oi := { dst := some 35, op := Go.Op.slice 61 (Go.Operand.tmp 33) none (some (Go.Operand.tmp 34)) none, type := 61, pos := "row.go:20", after := #[{ on := 13, ground := Go.Ground.data }, { on := 14, ground := Go.Ground.data }, { on := 12, ground := Go.Ground.guard }], guard := some (12, false) }) (v := undef) rfl (by kernel_rfl) (by kernel_rfl) (by kernel_rfl) (fun _ _ _ h => h) (Or.inr ⟨by rfl, rfl⟩) ?_
     simp only [Act.put, setIfInBounds_toArray, set_cons_zero, set_cons_succ]
     refine wpAny_take (i := 16) (oi := { dst := some 36, op := Go.Op.fieldAddr 129 (Go.Operand.tmp 8) 0, type := 0, pos := "row.go:20", after := #[{ on := 12, ground := Go.Ground.guard }], guard := some (12, false) }) (v := undef) rfl (by kernel_rfl) (by kernel_rfl) (by kernel_rfl) (fun _ _ _ h => h) (Or.inr ⟨by rfl, rfl⟩) ?_
     simp only [Act.put, setIfInBounds_toArray, set_cons_zero, set_cons_succ]
     refine wpAny_take (i := 17) (oi := { dst := some 37, op := Go.Op.load 124 (Go.Operand.tmp 36), type := 124, pos := "row.go:20", after := #[{ on := 16, ground := Go.Ground.data }, { on := 12, ground := Go.Ground.guard }], guard := some (12, false) }) (v := undef) rfl (by kernel_rfl) (by kernel_rfl) (by kernel_rfl) (fun _ _ _ h => h) (Or.inr ⟨by rfl, rfl⟩) ?_
     simp only [Act.put, setIfInBounds_toArray, set_cons_zero, set_cons_succ]
     refine wpAny_take (i := 18) (oi := { dst := some 38, op := Go.Op.call { callee := Go.Callee.value (Go.Operand.func 81), args := #[Go.Operand.tmp 35, Go.Operand.tmp 37], argTypes := #[61, 124] }, type := 4, pos := "row.go:20", after := #[{ on := 15, ground := Go.Ground.data }, { on := 17, ground := Go.Ground.data }, { on := 12, ground := Go.Ground.chain }, { on := 12, ground := Go.Ground.guard }], guard := some (12, false) }) (v := undef) rfl (by kernel_rfl) (by kernel_rfl) (by kernel_rfl) (fun _ _ _ h => h) (Or.inr ⟨by rfl, rfl⟩) ?_
     simp only [Act.put, setIfInBounds_toArray, set_cons_zero, set_cons_succ]
     refine wpAny_take (i := 19) (oi := { dst := some 39, op := Go.Op.unOp Go.UnOp.not 4 (Go.Operand.tmp 38), type := 4, pos := "row.go:20", after := #[{ on := 18, ground := Go.Ground.data }, { on := 12, ground := Go.Ground.guard }], guard := some (12, false) }) (v := undef) rfl (by kernel_rfl) (by kernel_rfl) (by kernel_rfl) (fun _ _ _ h => h) (Or.inr ⟨by rfl, rfl⟩) ?_
     simp only [Act.put, setIfInBounds_toArray, set_cons_zero, set_cons_succ]
     refine wpAny_take (i := 20) (oi := { dst := some 40, op := Go.Op.pick (Go.Operand.tmp 32) (Go.Operand.const (Go.Value.bool true)) (Go.Operand.tmp 39), type := 4, pos := "row.go:20", after := #[{ on := 12, ground := Go.Ground.data }, { on := 19, ground := Go.Ground.data }], guard := none }) (v := ?v20y16) rfl (by kernel_rfl) (by kernel_rfl) (by kernel_rfl) (fun _ _ _ h => h) (Or.inl ⟨by rfl, ?h20y16⟩) ?r20y16
     case h20y16 => (intro W; go_simp; try with_reducible rfl)
     simp only [Act.put, setIfInBounds_toArray, set_cons_zero, set_cons_succ]
     refine wpAny_done (by kernel_rfl) ?_ _
     go_wp2
     go_ret
     exact ⟨by rw [HO.out]; rfl, ag HBW.out (ag (Below.refl Wa.heap.size Wa).drew hb1)⟩
   ·have hlt' : l.length ≤ k := by omega
    have HF := ae (hok.fin hw hlt')
    go_wp2
    go_ret
    exact ⟨by rw [HF.out]; rfl, hbel⟩
theorem gn (a n m : Int) (w : World) : Calls Tryz.prog 41 #[.int .i64 a, .int .i64 n, .int .i64 m] w fun e w' => e = .returned (.bool (decide (a ≤ n ∧ n ≤ m))) ∧ w' = w := by
 by_cases h1 : a ≤ n
 ·by_cases h2 : n ≤ m
  ·have hd : decide (a ≤ n ∧ n ≤ m) = true := decide_eq_true ⟨h1, h2⟩
   rw [hd]
   clear hd
   go_enter Tryz.func41, Tryz.ntmps41
   go_wp2
   go_ret
   exact ⟨rfl, rfl⟩
  ·have hd : decide (a ≤ n ∧ n ≤ m) = false := decide_eq_false (fun h => h2 h.2)
   rw [hd]
   clear hd
   go_enter Tryz.func41, Tryz.ntmps41
   go_wp2
   go_ret
   exact ⟨rfl, rfl⟩
 ·have hd : decide (a ≤ n ∧ n ≤ m) = false := decide_eq_false (fun h => h1 h.1)
  rw [hd]
  clear hd
  go_enter Tryz.func41, Tryz.ntmps41
  go_wp2
  go_ret
  exact ⟨rfl, rfl⟩
structure mZ (l : List Int) (k : Nat) (u : Int) : Prop where
 ok : cr 1 1048576 (l.take k) = true
 last : ∀ x ∈ l.take k, x ≤ u
 mem : k = 0 ∧ u = 0 ∨ 0 < k ∧ l[k - 1]? = some u
theorem mZ.start (l : List Int) : mZ l 0 0 := ⟨by rw [List.take_zero]; rfl, by simp, .inl ⟨rfl, rfl⟩⟩
theorem mZ.pos {l : List Int} {k : Nat} {u : Int} (h : mZ l k u) : 0 ≤ u := by
 rcases h.mem with ⟨-, e⟩ | ⟨h0, e⟩
 ·omega
 ·have hm : u ∈ l.take k := by
   have : (l.take k)[k - 1]? = some u := by rw [List.getElem?_take_of_lt (by omega)]; exact e
   exact List.mem_of_getElem? this
  have := ((gh h.ok).1 u hm).1
  omega
theorem mZ.step {l : List Int} {k : Nat} {u x : Int} (h : mZ l k u) (hx : l[k]? = some x) (h1 : u < x) (h2 : x ≤ 1048576) : mZ l (k + 1) x := by
 have hp := h.pos
 obtain ⟨hr1, hr2⟩ := gh h.ok
 have e : l.take (k + 1) = l.take k ++ [x] := by rw [List.take_add_one, hx]; rfl
 refine ⟨?_, fun y hy => ?_, .inr ⟨by omega, by simpa using hx⟩⟩
 ·rw [e]
  unfold cr
  rw [Bool.and_eq_true, List.all_eq_true, decide_eq_true_eq]
  refine ⟨fun y hy => ?_, ?_⟩
  ·rcases List.mem_append.1 hy with hy | hy
   ·exact decide_eq_true (hr1 y hy)
   ·simp at hy; subst hy; exact decide_eq_true (by omega)
  ·rw [List.pairwise_append]
   refine ⟨hr2, by simp, fun a ha b hb => ?_⟩
   simp at hb
   subst hb
   have := h.last a ha
   omega
 ·rw [e] at hy
  rcases List.mem_append.1 hy with hy | hy
  ·have := h.last y hy; omega
  ·simp at hy; omega
theorem mZ.bad {l : List Int} {k : Nat} {u x : Int} (h : mZ l k u) (hx : l[k]? = some x) (h1 : ¬ (u < x ∧ x ≤ 1048576)) : cr 1 1048576 l = false := by
 cases e : cr 1 1048576 l with
 | false => rfl
 | true =>
  obtain ⟨hr1, hr2⟩ := gh e
  have hb := hr1 x (List.mem_of_getElem? hx)
  rcases h.mem with ⟨rfl, rfl⟩ | ⟨h0, e0⟩
  ·exact absurd (by omega) h1
  ·obtain ⟨q1, rfl⟩ := List.getElem?_eq_some_iff.1 hx
   obtain ⟨q2, rfl⟩ := List.getElem?_eq_some_iff.1 e0
   have := (List.pairwise_iff_getElem.1 hr2) (k - 1) k q2 q1 (by omega)
   exact absurd ⟨this, hb.2⟩ h1
def splB (l : List Int) : Bool := decide (1 ≤ l.length ∧ l.length ≤ 6) && cr 1 1048576 l
theorem nc (v : Value) (l : List Int) (w : World) (h : NS w v l) (hl : l.length ≤ 100000) : Calls Tryz.prog 42 #[v] w fun e w' => e = .returned (.bool (splB l)) ∧ w' = w := by
 obtain ⟨a, cap, rfl, hsh⟩ := h
 have HF := ae (gn 1 (l.length : Int) 6 w)
 by_cases h6 : 1 ≤ l.length ∧ l.length ≤ 6
 ·have hd : decide ((1 : Int) ≤ (l.length : Int) ∧ (l.length : Int) ≤ 6) = true := decide_eq_true (by omega)
  have hs : splB l = cr 1 1048576 l := by unfold splB; rw [decide_eq_true h6]; rfl
  rw [hs]
  rw [hd] at HF
  clear hd hs h6
  go_enter Tryz.func42, Tryz.ntmps42
  go_wp2_with (first
   | (go_at_call 41; refine HF.out.mono ?_; rintro e w' ⟨rfl, rfl⟩))
  go_loop [3, 12] (fun u i => ∃ (k : Nat) (x : Int), k ≤ l.length ∧ i = .int .i64 k ∧ u = .int .i64 x ∧ Hid (mZ l k x)) (fun _ i => l.length - (intOf i).toNat)
  case atStart => exact ⟨0, 0, by omega, rfl, rfl, mZ.start l⟩
  case round =>
   obtain ⟨k, u, hk, rfl, rfl, HT⟩ := hrel
   by_cases hlt : k < l.length
   ·obtain ⟨x, hx⟩ := ak hlt
    rcases hsh with hnil | ⟨b, off, rfl, hb, hat⟩
    ·rw [hnil] at hlt; simp at hlt
    have c0 := hat k x hx
    have hki : (k : Int) < (l.length : Int) := by omega
    by_cases h1 : u < x
    ·have d1 : decide (x ≤ u) = false := decide_eq_false (by omega)
     by_cases h2 : x ≤ 1048576
     ·have d2 : decide (1048576 < x) = false := decide_eq_false (by omega)
      have HN := ae (HT.out.step hx h1 h2)
      clear hat hx
      go_wp2
      go_round
      case rel => exact ⟨k + 1, x, by omega, by go_num, rfl, HN⟩
      case measure => simp [intOf]; omega
     ·have d2 : decide (1048576 < x) = true := decide_eq_true (by omega)
      have HN := ae (HT.out.bad hx (fun h => h2 h.2))
      clear hat hx
      go_wp2
      go_ret
      exact ⟨by rw [HN.out]; rfl, rfl⟩
    ·have d1 : decide (x ≤ u) = true := decide_eq_true (by omega)
     have HN := ae (HT.out.bad hx (fun h => h1 h.1))
     clear hat hx
     go_wp2
     go_ret
     exact ⟨by rw [HN.out]; rfl, rfl⟩
   ·have HN := ae (show cr 1 1048576 l = true by have := HT.out.ok; rwa [List.take_of_length_le (by omega)] at this)
    have hki : ¬ (k : Int) < (l.length : Int) := by omega
    go_wp2
    go_ret
    exact ⟨by rw [HN.out]; rfl, rfl⟩
 ·have hd : decide ((1 : Int) ≤ (l.length : Int) ∧ (l.length : Int) ≤ 6) = false := decide_eq_false (by omega)
  have hs : splB l = false := by unfold splB; rw [decide_eq_false h6]; rfl
  rw [hs]
  rw [hd] at HF
  clear hd hs h6
  go_enter Tryz.func42, Tryz.ntmps42
  go_wp2_with (first
   | (go_at_call 41; refine HF.out.mono ?_; rintro e w' ⟨rfl, rfl⟩))
  go_ret
  exact ⟨rfl, rfl⟩
theorem jobB_parts (j : Jb) (l : List Int) : fL j l = (decide (1 ≤ j.id ∧ j.id ≤ 1048576) && (decide (j.prog.size ≤ 512) && (decide (0 ≤ j.fuel ∧ j.fuel ≤ 2000) && (dL j.parts && (splB l && aJ j.agg j.bound))))) := by
 unfold fL splB
 cases decide (1 ≤ j.id ∧ j.id ≤ 1048576) <;> cases decide (j.prog.size ≤ 512) <;> cases aJ j.agg j.bound <;> cases decide (0 ≤ j.fuel ∧ j.fuel ≤ 2000) <;> cases decide (1 ≤ l.length ∧ l.length ≤ 6) <;> cases cr 1 1048576 l <;> cases dL j.parts <;> rfl
theorem mayP_dec (n : Int) : decide (1 ≤ n ∧ n ≤ 8) = dL n := by unfold dL; exact Bool.decide_and ..
theorem okRows_nil (agg bound : Int) : ce agg bound [] = aJ agg bound := by
 unfold ce
 cases aJ agg bound <;> rfl
theorem jcheck_any (j : Jb) (v : Value) (l : List Int) (w : World) (hn : NS w v l) (hl : l.length ≤ 100000) : Calls Tryz.prog 11 #[cJ j v] w fun e w' => e = .returned (.int .i64 (iz (fL j l))) ∧ Below w.heap.size w w' := by
 obtain ⟨a, c, rfl⟩ : ∃ a c, v = .slice a l.length c := by
  obtain ⟨a, c, e, -⟩ := hn
  exact ⟨a, c, e⟩
 have hb0 := dN w (.cells #[.int .i64 j.id, .string j.prog, .int .i64 j.agg, .int .i64 j.bound, .int .i64 j.fuel, .slice a l.length c, .int .i64 j.parts] 37)
 have hB := fp.new w j (.slice a l.length c)
 obtain ⟨W0, hW0⟩ : ∃ W0 : World, W0 = w.alloc (.cells #[.int .i64 j.id, .string j.prog, .int .i64 j.agg, .int .i64 j.bound, .int .i64 j.fuel, .slice a l.length c, .int .i64 j.parts] 37) := ⟨_, rfl⟩
 rw [← hW0] at hb0 hB
 obtain ⟨a0, a1, a2, a3, a4, a5, a6⟩ := hB.cells
 have H1 := ae (gn 1 j.id 1048576 W0)
 have H2 := ae (gn 0 j.fuel 2000 W0)
 have H3 := ae (gn 1 j.parts 8 W0)
 have H4 := ae (nc (.slice a l.length c) l W0 (hn.below hb0) hl)
 have H5 := ae (mY j.agg j.bound (.slice none 0 0) [] W0 ⟨none, 0, rfl, .inl rfl⟩ (by simp) (by simp) (show iD (.slice none 0 0) from Nat.le_refl 0))
 rw [okRows_nil] at H5
 rw [mayP_dec] at H3
 have HP := ae (jobB_parts j l)
 have HW := ae hW0.symm
 have HB := ae hb0
 clear hW0 hb0 hB hn
 rw [HP.out]
 generalize decide (1 ≤ j.id ∧ j.id ≤ 1048576) = b1 at H1
 generalize decide (0 ≤ j.fuel ∧ j.fuel ≤ 2000) = b2 at H2
 generalize dL j.parts = b3 at H3
 generalize splB l = b4 at H4
 generalize aJ j.agg j.bound = b5 at H5
 by_cases hp : j.prog.size ≤ 512
 ·have dp : decide ((512 : Int) < (j.prog.size : Int)) = false := decide_eq_false (by omega)
  rw [decide_eq_true hp]
  clear hp
  cases b1 <;> cases b2 <;> cases b3 <;> cases b4
  all_goals
   go_enter Tryz.func11, Tryz.ntmps11
   go_wp2_with (first
    | (go_at_call 41; rw [HW.out]; refine H1.out.mono ?_; clear H1; rintro e W1 ⟨rfl, hw1⟩; subst W1)
    | (go_at_call 41; refine H2.out.mono ?_; clear H2; rintro e W1 ⟨rfl, hw1⟩; subst W1)
    | (go_at_call 41; refine H3.out.mono ?_; clear H3; rintro e W1 ⟨rfl, hw1⟩; subst W1)
    | (go_at_call 42; refine H4.out.mono ?_; clear H4; rintro e W1 ⟨rfl, hw1⟩; subst W1)
    | (go_at_call 43; refine H5.out.mono ?_; clear H5; rintro e W1 ⟨rfl, hb1⟩))
   go_ret
   first
    | exact ⟨rfl, HB.out⟩
    | exact ⟨rfl, ag HB.out hb1⟩
 ·have dp : decide ((512 : Int) < (j.prog.size : Int)) = true := decide_eq_true (by omega)
  rw [decide_eq_false hp]
  clear hp
  cases b1
  all_goals
   go_enter Tryz.func11, Tryz.ntmps11
   go_wp2_with (first
    | (go_at_call 41; rw [HW.out]; refine H1.out.mono ?_; clear H1; rintro e W1 ⟨rfl, hw1⟩; subst W1))
   go_ret
   exact ⟨rfl, HB.out⟩
end Go.Proofs.YtclcgakfmcofaaaGreatDoor
