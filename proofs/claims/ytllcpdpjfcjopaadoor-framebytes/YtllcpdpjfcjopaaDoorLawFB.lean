/- The law FrameBytes' walk: it answers true, whatever row of strings comes in; it writes nothing that was there. -/
import Derived.Test.YtllcpdpjfcjopaaDoorFZero
import Derived.Deep.RegionHeld3
import Derived.Deep.Cut
import Derived.Deep.CutRange
import Derived.StillTailTactics
namespace Go.Proofs.YtllcpdpjfcjopaaDoor
open Go.RowKit
set_option linter.unusedVariables false

theorem num5_any (e : Int) (w : World) : Calls Tryd.prog 7 #[.int .i64 e] w fun r w' => r = .returned (.int .i64 e) ∧ w' = w := by
  go_enter Tryd.func7, Tryd.ntmps7
  go_wp2
  go_ret
  exact ⟨rfl, rfl⟩

theorem wakes5_any (w : World) (h : Halves w) : Calls Tryd.prog 14 #[] w fun e w' => e = .returned (.bool true) ∧ Below w.heap.size w w' := by
  have hby := fbytes_ok ⟨#[]⟩ w (by decide) h
  have hsz : (frameOf ⟨#[]⟩).size = 8 := by rw [frame_size]; rfl
  generalize frameOf ⟨#[]⟩ = f at hby hsz
  go_enter Tryd.func14, Tryd.ntmps14
  go_wp2_with fail
  refine hby.mono ?_
  rintro e w1 ⟨rfl, hb1⟩
  go_wp2_with (go_at_call 7; refine (num5_any _ _).mono ?_; rintro e w' ⟨rfl, rfl⟩)
  go_ret
  exact ⟨rfl, hb1⟩

/-- From place 0 of block g on these strings lie. -/
def Cells (w : World) (g : Nat) (ys : List ByteArray) : Prop := g < w.heap.size ∧ ∀ j y, ys[j]? = some y → w.cell? ⟨g, j, none⟩ = some (.string y)
theorem Cells.below {w w' : World} {g : Nat} {ys : List ByteArray} (h : Cells w g ys) (hb : Below w.heap.size w w') : Cells w' g ys :=
  ⟨Nat.lt_of_lt_of_le h.1 hb.size, fun j y hy => (hb.cell (p := ⟨g, j, none⟩) h.1).trans (h.2 j y hy)⟩
theorem cells_four (w : World) (y0 y1 y2 y3 : ByteArray) (T : TypeId) : Cells (w.alloc (.cells #[.string y0, .string y1, .string y2, .string y3] T)) w.heap.size [y0, y1, y2, y3] := by
  refine ⟨by simp, fun j y hy => ?_⟩
  unfold World.cell?
  rw [(MapKept.heap_alloc w _).1]
  match j, hy with
  | 0, hy => simp at hy; subst hy; rfl
  | 1, hy => simp at hy; subst hy; rfl
  | 2, hy => simp at hy; subst hy; rfl
  | 3, hy => simp at hy; subst hy; rfl

set_option maxRecDepth 100000 in
set_option maxHeartbeats 1600000 in
theorem lawfb (v : Value) (l : List ByteArray) (w : World) (h : SS w v l) (hl : l.length ≤ 8796093021952) (hwf : WfS l) (hh : Halves w) :
    Calls Tryd.prog 3 #[v] w fun e w' => e = .returned (.bool true) ∧ Below w.heap.size w w' := by
  have hvy := heavy_any v l w h hl hwf
  obtain ⟨a, cap, rfl, h⟩ := h
  obtain ⟨n, hn⟩ : ∃ n, l.length = n := ⟨_, rfl⟩
  rw [hn] at hl hvy ⊢
  go_enter Tryd.func3, Tryd.ntmps3
  go_wp2_with fail
  refine hvy.mono ?_
  rintro e w1 ⟨⟨r, rfl, hr⟩, hw1⟩
  subst hw1
  rename World => w
  clear hvy
  cases r
  · have hwt := hr rfl
    clear hr
    go_wp2_with fail
    go_loopw [3, 4] (fun r i wr => ∃ (k : Nat) (row : ByteArray), k ≤ n ∧ k ≤ 10 ∧ i = .int .i64 k ∧ r = .string row ∧ row.size ≤ 9008 * k ∧ Below w.heap.size w wr) (fun _ i _ => 10 - (intOf i).toNat)
    case atStart => exact ⟨0, ⟨#[]⟩, by omega, by omega, rfl, rfl, Nat.le_refl 0, Below.refl _ _⟩
    case round =>
      obtain ⟨k, row, hk, hk10, rfl, rfl, hrow, hbel⟩ := hrel
      have hhr := hh.below hbel hh.pos
      by_cases hlt : k < n ∧ k < 10
      · obtain ⟨hlt, hlt10⟩ := hlt
        rcases h with rfl | ⟨b, off, rfl, hb, hat⟩
        · simp at hn; omega
        obtain ⟨x, hx⟩ := getSome (l := l) (i := k) (by omega)
        have hA0 := hat k x hx
        have hA := (hbel.cell (p := ⟨b, off + k, none⟩) hb).trans hA0
        have hxs : x.size ≤ 9000 := by have := sizes_mem (List.mem_of_getElem? hx); omega
        have hfs := frame_size x
        have hby := fun W (hW : Halves W) => fbytes_ok x W (by omega) hW
        have hrf := fun W => rframe_any x W (by omega)
        generalize frameOf x = fr at hfs hby hrf
        have hadd1 : ∀ W, (Op.stringOp .add row fr).run Tryd.prog W = .ok (.string (row ++ fr)) W := fun W => run_string_add_sum W _ _ (by omega)
        have hadd2 : ∀ W, (Op.stringOp .add fr x).run Tryd.prog W = .ok (.string (fr ++ x)) W := fun W => run_string_add_sum W _ _ (by omega)
        have hadd3 : ∀ W, (Op.stringOp .add (row ++ fr) x).run Tryd.prog W = .ok (.string (row ++ fr ++ x)) W := fun W => run_string_add_sum W _ _ (by rw [ByteArray.size_append]; omega)
        clear hx hat
        go_wp2_with fail
        refine (hby _ hhr).mono ?_
        rintro e w2 ⟨rfl, hb2⟩
        have hbel2 := bel_next hbel hb2
        have hA2 := (hbel2.cell (p := ⟨b, off + k, none⟩) hb).trans hA0
        clear hby hhr hA hbel hb2
        go_wp2_with (go_at_call 7; refine (num5_any _ _).mono ?_; rintro e w2 ⟨rfl, rfl⟩)
        refine (hrf _).mono ?_
        rintro e w3 ⟨rfl, hb3⟩
        have hbel3 := bel_next hbel2 hb3
        have hA3 := (hbel3.cell (p := ⟨b, off + k, none⟩) hb).trans hA0
        clear hA2 hbel2 hb3
        go_wp2_with fail
        refine (hrf _).mono ?_
        rintro e w4 ⟨rfl, hb4⟩
        have hbel4 := bel_next hbel3 hb4
        have hA4 := (hbel4.cell (p := ⟨b, off + k, none⟩) hb).trans hA0
        clear hA3 hbel3 hb4 hrf
        go_wp2_with fail
        have hbelC := fun W (hW : Below w4.heap.size w4 W) => bel_next hbel4 hW
        have hC4 := cells_four w4.drew x (fr ++ x) (row ++ fr ++ x) (row ++ fr)
        go_cut [7] from 31 to 142 (fun all wx => all = .slice (some ⟨w4.heap.size, 0, none⟩) 4 4 ∧ Cells wx w4.heap.size [x, fr ++ x, row ++ fr ++ x, row ++ fr] ∧ Below w.heap.size w wx)
        case first =>
          refine wp_region_still_tail 17 (Checked.mixed Tryd.checked) (by kernel_rfl) ?_
          simp only [List.take_succ_cons, List.take_zero, List.drop_succ_cons, List.drop_zero]
          repeat still_step
          refine wpStill_nil ?_
          change wpList _ _ _ _ _ w4.drew
          go_wp2_with fail
          go_meet
          case rel => exact ⟨rfl, hC4 _, hbel4.drew.alloc (by have := hbel4.size; simpa using this) _⟩
        case rest =>
          obtain ⟨hall, hCe, hbel5⟩ := hcut
          subst hall
          clear hC4 hbelC hadd1 hadd2 hadd3 hA4
          generalize w4.heap.size = g at hCe
          have hys : ∀ y ∈ [x, fr ++ x, row ++ fr ++ x, row ++ fr], y.size ≤ 100000 := by
            intro y hy
            simp only [List.mem_cons, List.not_mem_nil, or_false] at hy
            rcases hy with rfl | rfl | rfl | rfl
            · omega
            · rw [ByteArray.size_append]; omega
            · rw [ByteArray.size_append, ByteArray.size_append]; omega
            · rw [ByteArray.size_append]; omega
          have hrow' : (row ++ fr).size ≤ 9008 * (k + 1) := by rw [ByteArray.size_append]; omega
          have hyl : [x, fr ++ x, row ++ fr ++ x, row ++ fr].length = 4 := rfl
          generalize row ++ fr = row' at hCe hys hrow' hyl ⊢
          generalize [x, fr ++ x, row' ++ x, row'] = ys at hCe hys hyl
          clear hbel4
          go_wp2_with fail
          go_loopw [8] (fun i wz => ∃ j : Nat, j ≤ 4 ∧ i = .int .i64 j ∧ Cells wz g ys ∧ Below w.heap.size w wz) (fun i _ => 4 - (intOf i).toNat)
          case atStart => exact ⟨0, by omega, rfl, hCe, hbel5⟩
          case round =>
            clear hCe hbel5
            obtain ⟨j, hj, rfl, hCe, hbel5⟩ := hrel
            by_cases hj4 : j < 4
            · obtain ⟨y, hy⟩ := getSome (l := ys) (i := j) (by omega)
              have hyz := hys y (List.mem_of_getElem? hy)
              have hT := fun W (hW : Halves W) => ftake_any y W hyz hW
              have hR := fun W => rftake_any y W hyz
              have hS := fun W (hW : Halves W) => scan_any y W hyz hW
              have hQ := fun W => rscan_any y W hyz
              have hln := scanOf_len y
              simp only [TakePost, ScanPost] at hT hR hS hQ
              generalize fTake y = r at hT hR
              generalize scanOf y = q at hS hQ hln
              obtain ⟨t, tj, te⟩ := r
              obtain ⟨q1, q2⟩ := q
              simp only at hT hR hS hQ hln
              have c0 := hCe.2 j y hy
              have hhr := hh.below hbel5 hh.pos
              go_wp2_with fail
              refine (hT _ hhr).mono ?_
              rintro e w6 ⟨rfl, hb6⟩
              have hCe6 := hCe.below hb6
              have hbel6 := bel_next hbel5 hb6
              have c6 := hCe6.2 j y hy
              clear hT c0 hhr hCe hbel5 hb6
              go_wp2_with fail
              refine (hR _).mono ?_
              rintro e w7 ⟨rfl, hb7⟩
              have hCe7 := hCe6.below hb7
              have hbel7 := bel_next hbel6 hb7
              have c7 := hCe7.2 j y hy
              have hh7 := hh.below hbel7 hh.pos
              clear hR c6 hCe6 hbel6 hb7
              go_wp2_with fail
              refine (hS _ hh7).mono ?_
              rintro e w8 ⟨v8, rfl, hown8, hb8⟩
              have hCe8 := hCe7.below hb8
              have hbel8 := bel_next hbel7 hb8
              have c8 := hCe8.2 j y hy
              clear hS c7 hCe7 hbel7 hb8 hh7
              go_wp2_with fail
              refine (hQ _).mono ?_
              rintro e w9 ⟨v9, rfl, hown9, hb9⟩
              have hCe9 := hCe8.below hb9
              have hbel9 := bel_next hbel8 hb9
              have hs8 := (SS.own hown8).below hb9
              have hs9 := SS.own hown9
              have heq := eqstrs_any v8 v9 q1 w9 hs8 hs9 (by omega)
              obtain ⟨a8, cap8, hv8⟩ := hown8.shape
              obtain ⟨a9, cap9, hv9⟩ := hown9.shape
              subst hv8 hv9
              clear hQ c8 hCe8 hbel8 hb9 hown8 hown9 hs8 hs9
              go_wp2_with (go_at_call 7; refine (num5_any _ _).mono ?_; rintro e w9 ⟨rfl, rfl⟩)
              refine heq.mono ?_
              rintro e w10 ⟨rfl, hD⟩
              have hCe10 := hCe9.below (hD.below _)
              have hbel10 := bel_next hbel9 (hD.below _)
              clear heq hCe9 hbel9 hD
              go_wp2_with fail
              go_roundw
              case rel => exact ⟨j + 1, by omega, by go_num, hCe10, hbel10⟩
              case measure => simp [intOf]; omega
            · go_wp2_with fail
              go_roundw
              case rel => exact ⟨k + 1, row', by omega, by omega, by go_num, rfl, hrow', hbel5⟩
              case measure => simp [intOf]; omega
      · obtain ⟨W1, big, hmk, hcv, hbig, hb1⟩ := zeros wr 32769 (by omega)
        rw [show ((32769 : Nat) : Int) = 32769 from rfl] at hmk
        have hB := fun W => fbytes_big big W (by omega)
        have hbelZ := bel_next hbel hb1
        have hhz := hh.below hbelZ hh.pos
        have hwk := wakes5_any _ hhz
        clear hhr hb1
        go_wp2_with (first | (go_at_call 6; refine (hB _).mono ?_; rintro e wB ⟨rfl, hwB⟩; subst hwB) | (go_at_call 7; refine (num5_any _ _).mono ?_; rintro e wB ⟨rfl, hwB⟩; subst hwB) | (go_at_call 14; refine hwk.mono ?_; rintro e wB ⟨rfl, hbB⟩))
        all_goals
          go_ret
          exact ⟨rfl, bel_next hbelZ hbB⟩
  · go_wp2
    go_ret
    exact ⟨rfl, Below.refl _ _⟩
end Go.Proofs.YtllcpdpjfcjopaaDoor
