/- What is played: Heavy, num, wakes; the rows of a fold. -/
import Derived.Test.YtaagllbcmgnbnaaGreatDoorMB33
import Derived.Test.YtaagllbcmgnbnaaGreatDoorMB13
import Derived.Test.YtaagllbcmgnbnaaGreatDoorMB26
namespace Go.Proofs.YtaagllbcmgnbnaaGreatDoor
open Go.RowKit
set_option linter.unusedVariables false
abbrev askO (agg bound : Int) (vl vv : Value) (x : ByteArray) : Obj := .cells #[.int .i64 agg, .int .i64 bound, vl, vv, .string x] 25
/-- The block of what is asked. -/
def BlkA (W : World) (b : Nat) (agg bound : Int) (vl vv : Value) (x : ByteArray) : Prop := W.heap[b]? = some (.cells #[.int .i64 agg, .int .i64 bound, vl, vv, .string x] 25 (0, 0))
theorem BlkA.new (W : World) (agg bound : Int) (vl vv : Value) (x : ByteArray) : BlkA (W.alloc (askO agg bound vl vv x)) W.heap.size agg bound vl vv x := heap_alloc_new W _
theorem BlkA.lt {W : World} {b : Nat} {agg bound : Int} {vl vv : Value} {x : ByteArray} (h : BlkA W b agg bound vl vv x) : b < W.heap.size := (Array.getElem?_eq_some_iff.1 h).1
theorem BlkA.below {W W' : World} {b : Nat} {agg bound : Int} {vl vv : Value} {x : ByteArray} (h : BlkA W b agg bound vl vv x) (hb : Below W.heap.size W W') : BlkA W' b agg bound vl vv x := by unfold BlkA; rw [hb.block b h.lt]; exact h
theorem BlkA.cells {W : World} {b : Nat} {agg bound : Int} {vl vv : Value} {x : ByteArray} (h : BlkA W b agg bound vl vv x) : W.cell? ⟨b, 0, none⟩ = some (.int .i64 agg) ∧ W.cell? ⟨b, 1, none⟩ = some (.int .i64 bound) ∧ W.cell? ⟨b, 2, none⟩ = some vl ∧ W.cell? ⟨b, 3, none⟩ = some vv ∧ W.cell? ⟨b, 4, none⟩ = some (.string x) := by
  unfold BlkA at h
  refine ⟨?_, ?_, ?_, ?_, ?_⟩ <;> simp [World.cell?, h]
end Go.Proofs.YtaagllbcmgnbnaaGreatDoor
namespace Go.Proofs.YtaagllbcmgnbnaaGreatDoor
open Go.RowKit
set_option linter.unusedVariables false
set_option maxRecDepth 100000
theorem In10.below {W W' : World} {agg bound : Int} {vl vv : Value} {x : ByteArray} {L : List (List Rw)} {l : List Rc} (h : In10 W agg bound vl vv x L l) (hb : Below W.heap.size W W') : In10 W' agg bound vl vv x L l :=
  ⟨h.hagg, h.hbound, ⟨h.hL.1.below hb, h.hL.2⟩, h.hLcap, ⟨h.hl.1.below hb, h.hl.2⟩, h.hcap, h.hx⟩
theorem RS.take {w : World} {a : Option Addr} {cap : Nat} {l : List Rc} (h : RS w (.slice a l.length cap) l) (k : Nat) (hk : k ≤ l.length) (cap' : Nat) : RS w (.slice a k cap') (l.take k) := by
  obtain ⟨a', c', e, h⟩ := h
  injection e with e1 e2 e3
  subst e1
  refine ⟨a, cap', by simp [hk], ?_⟩
  rcases h with rfl | ⟨b, off, rfl, hb, hat⟩
  · exact .inl (by simp)
  · refine .inr ⟨b, off, rfl, hb, fun i r hr => hat i r ?_⟩
    have hi := (List.getElem?_eq_some_iff.1 hr).1
    rw [List.length_take] at hi
    rwa [List.getElem?_take_of_lt (by omega)] at hr
theorem Wf.take {l : List Rc} (h : Wf l) (k : Nat) : Wf (l.take k) := fun x hx => h x (List.mem_of_mem_take hx)
theorem keysOk_mem {l : List Rc} : keysOk l = true ↔ ∀ x ∈ l, x.1.2.size ≤ 64 := by
  unfold keysOk
  rw [List.all_eq_true]
  constructor
  · intro h x hx; have := h x hx; simpa using this
  · intro h x hx; simpa using h x hx
/-- The rows of a fold may be. -/
theorem fine_fold {agg bound : Int} {l : List Rc} (hw : wayC agg bound = true) (hk : keysOk l = true) (hwf : Wf l) (hl : l.length ≤ 1536) : FineR agg bound (foldR agg bound.toNat l).1 := by
  have hr := fold_rise agg bound.toNat l
  have hc : ∀ r ∈ (foldR agg bound.toNat l).1, OkC agg bound r.2 := fun r hr' => okC_fold l hw hwf _ _ (mem_look hr hr')
  refine ⟨?_, hc, good_fold agg bound.toNat hwf⟩
  unfold okRows
  rw [hw, Bool.true_and, Bool.and_eq_true, Bool.and_eq_true, decide_eq_true_eq, decide_eq_true_eq, List.all_eq_true]
  refine ⟨⟨by have := len_fold agg bound.toNat l; omega, fun r hr' => ?_⟩, hr⟩
  rw [Bool.and_eq_true, decide_eq_true_eq]
  refine ⟨?_, (hc r hr').1⟩
  have h1 := mem_look hr hr'
  obtain ⟨y, hy, e⟩ := (keys_gat (joinC agg bound.toNat) (ones agg l) r.1).1 (by unfold foldR at h1; rw [h1]; rfl)
  unfold ones at hy
  obtain ⟨z, hz, rfl⟩ := List.mem_map.1 hy
  rw [← e]
  exact keysOk_mem.1 hk z hz
end Go.Proofs.YtaagllbcmgnbnaaGreatDoor
