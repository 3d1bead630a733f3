/- part.copied: a row, its set copied. -/
import Derived.Test.YtejgcflcckjlpaaDoorOC32M
import Derived.Test.YtejgcflcckjlpaaDoorOC21
namespace Go.Proofs.YtejgcflcckjlpaaDoor
open Go.RowKit
set_option linter.unusedVariables false
set_option maxRecDepth 100000

set_option maxHeartbeats 800000 in
theorem copied_any (k : Ky) (n : Int) (l : List Int) (a : Option Addr) (cap : Nat) (w : World) (h : NS w (.slice a l.length cap) l) (hl : l.length ≤ 100000) :
    Calls Tryd.prog 23 #[.agg #[.int .i64 k.1, .string k.2, .int .i64 n, .slice a l.length cap]] w fun e w' => (∃ s : Sl, e = .returned (.agg #[.int .i64 k.1, .string k.2, .int .i64 n, slV s]) ∧ OwnL w' w.heap.size (slV s) l) ∧ Below w.heap.size w w' := by
  obtain ⟨ka, kb⟩ := k
  simp only
  have st : ∀ (W : World) (o : Obj), Below W.heap.size W (W.alloc o) := fun W o => (Below.refl _ _).alloc (Nat.le_refl _) _
  obtain ⟨W3, hW3⟩ : ∃ W3 : World, W3 = (w.alloc (.cells #[.int .i64 ka, .string kb, .int .i64 n, .slice a l.length cap] 57)).alloc (.cells #[.int .i64 0, .string ⟨#[]⟩, .int .i64 0, .slice none 0 0] 57) := ⟨_, rfl⟩
  have hb3 : Below w.heap.size w W3 := by rw [hW3]; exact nxt (st _ _) (st _ _)
  have hs3 : W3.heap.size = w.heap.size + 2 := by rw [hW3]; simp
  have B0 : Blk4 W3 w.heap.size (.int .i64 ka) (.string kb) (.int .i64 n) (.slice a l.length cap) := by
    rw [hW3]
    exact (Blk4.new w _ _ _ _).below (st _ _)
  have B1 : Blk4 W3 (w.heap.size + 1) (.int .i64 0) (.string ⟨#[]⟩) (.int .i64 0) (.slice none 0 0) := by
    have := Blk4.new (w.alloc (.cells #[.int .i64 ka, .string kb, .int .i64 n, .slice a l.length cap] 57)) (.int .i64 0) (.string ⟨#[]⟩) (.int .i64 0) (.slice none 0 0)
    rw [hW3]
    simpa using this
  obtain ⟨v4, W4, u1, ho4, hg4, -⟩ := append_ns (base := W3.heap.size) (l := []) 53 (World.ownsRow_nil W3 W3.heap.size 2 1) (h.below hb3) (by simp only [List.length_nil]; omega) (Nat.le_refl _)
  rw [List.nil_append] at ho4
  have hb4 : Below W3.heap.size W3 W4 := (Below.refl _ _).grown hg4 (Nat.le_refl _) (fun k hk => by cases hk)
  obtain ⟨a4, c4, rfl⟩ := ho4.shape
  have C0 := B0.below hb4
  have C1 := B1.below hb4
  obtain ⟨p0, p1, p2, p3, -⟩ := B0.cells
  obtain ⟨-, -, -, q3, -, -, -, g3⟩ := C0.cells
  have D0 := C0.set3 (.slice a4 l.length c4)
  obtain ⟨s0, s1, s2, s3, -⟩ := D0.cells
  have D1 := C1.other (b' := w.heap.size) (o := 3) (u := .slice a4 l.length c4) (by omega)
  obtain ⟨t0, -, -, -, u0, -⟩ := D1.cells
  have E1 := D1.set0 (.int .i64 ka)
  obtain ⟨-, t1, -, -, -, f1, -⟩ := E1.cells
  have E2 := E1.set1 (.string kb)
  obtain ⟨-, -, t2, -, -, -, f2, -⟩ := E2.cells
  have E3 := E2.set2 (.int .i64 n)
  obtain ⟨-, -, -, t3, -, -, -, f3⟩ := E3.cells
  have E4 := E3.set3 (.slice a4 l.length c4)
  have HW := hidM hW3.symm
  have HB := hidM hb3
  have U1 := hidM u1
  have HO := hidM ho4
  have HB4 := hidM hb4
  have HE := hidM E4
  clear hW3 st hb3 u1 hg4 ho4 hb4 B0 B1 C0 C1 D0 D1 E1 E2 E3 E4 h
  go_enter Tryd.func23, Tryd.ntmps23
  go_wp2_with (at_builtin; rw [HW.out]; refine wpList_append_run _ rfl _ _ _ rfl _ _ (.slice a4 l.length c4) W4 rfl rfl U1.out ?_)
  have l1 : w.heap.size < W3.heap.size := by omega
  have l2 : w.heap.size + 1 < W3.heap.size := by omega
  exact bodyPost_ret (results_cell1 rfl rfl HE.out.load) rfl ⟨⟨(a4, l.length, c4), rfl, (own_set1 (own_set1 (own_set1 (own_set1 (own_set1 HO.out l1 _) l2 _) l2 _) l2 _) l2 _).lower (by omega)⟩,
    below_set1 (below_set1 (below_set1 (below_set1 (below_set1 (nxt HB.out HB4.out) (by omega) _) (by omega) _) (by omega) _) (by omega) _) (by omega) _⟩
end Go.Proofs.YtejgcflcckjlpaaDoor
