/- The law RecAlls' walk: it answers true, whatever ask comes in; it writes nothing that was there. -/
import Derived.Test.YtmdkkagngiahcaaRAsk
import Derived.Test.YtmdkkagngiahcaaRText
namespace Go.Proofs.Ytmdkkagngiahcaa
open Go.RowKit
set_option linter.unusedVariables false

/-- A row of strings in block g. -/
def StrsAt (W : World) (g : Nat) (ss : List ByteArray) : Prop := g < W.heap.size ∧ ∀ i s, ss[i]? = some s → W.cell? ⟨g, i, none⟩ = some (.string s)
theorem StrsAt.step {W W' : World} {g : Nat} {ss : List ByteArray} (h : StrsAt W g ss) (hb : Below W.heap.size W W') : StrsAt W' g ss :=
  ⟨Nat.lt_of_lt_of_le h.1 hb.size, fun i s hs => (hb.cell (p := ⟨g, i, none⟩) h.1).trans (h.2 i s hs)⟩
theorem StrsAt.new (W : World) (a b c d : ByteArray) (T : TypeId) : StrsAt (W.alloc (.cells #[.string a, .string b, .string c, .string d] T)) W.heap.size [a, b, c, d] := by
  refine ⟨by simp, fun i s hs => ?_⟩
  unfold World.cell?
  rw [(MapKept.heap_alloc W _).1]
  match i, hs with
  | 0, hs => simp at hs; subst hs; rfl
  | 1, hs => simp at hs; subst hs; rfl
  | 2, hs => simp at hs; subst hs; rfl
  | 3, hs => simp at hs; subst hs; rfl

set_option maxRecDepth 100000 in
set_option maxHeartbeats 1600000 in
theorem lawra (v : Value) (x : ByteArray) (l : List Rc) (w : World) (h : RS w v l) (hl : l.length ≤ 4398046510976) (hwf : Wf l) (hx : x.size ≤ maxLen) :
    Calls Try.prog 4 #[.agg #[v, .string x]] w fun e w' => e = .returned (.bool true) ∧ Below w.heap.size w w' := by
  have hR0 := AskRel.start w v x l 24 h
  go_enter Try.func4, Try.ntmps4
  go_wp2_with fail
  refine (heavy_any _ x l _ hR0.rs hl hwf).mono ?_
  rintro e w1 ⟨⟨r, rfl, hr⟩, hb1⟩
  have hR1 := hR0.step hb1
  clear hR0 hb1
  cases r
  · obtain ⟨hl2, hx2⟩ := hr rfl
    clear hr
    have hlm : l.length ≤ maxLen := by unfold maxLen; omega
    have hT := fun v W hW => text4_any v l W hW hwf hlm
    have hT' := fun v W hW => rtext_any v l W hW hwf hlm
    have htl := txtOf_len l
    simp only [TextPost] at hT hT'
    obtain ⟨t, te, ht⟩ : ∃ t te, txtOf l = (t, te) := ⟨_, _, rfl⟩
    rw [ht] at hT hT' htl
    simp only at hT hT' htl
    clear ht
    have c0 := hR1.c0
    go_wp2_with fail
    refine (copy_any _ l _ hR1.rs (by omega)).mono ?_
    rintro e w2 ⟨vc, rfl, hoc, hb2⟩
    have hR2 := hR1.step hb2
    have hcr := RS.own hoc
    clear hR1 c0 hb2 hoc
    go_wp2_with fail
    refine (hT _ _ hcr).mono ?_
    rintro e w3 ⟨rfl, hb3⟩
    have hR3 := hR2.step hb3
    have c0 := hR3.c0
    clear hR2 hb3 hcr
    go_wp2_with fail
    refine (hT' _ _ hR3.rs).mono ?_
    rintro e w4 ⟨rfl, hb4⟩
    have hR4 := hR3.step hb4
    have c1 := hR4.c1
    clear hR3 hb4 c0
    have hadd : ∀ W, (Op.stringOp .add t x).run Try.prog W = .ok (.string (t ++ x)) W := fun W => run_string_add_sum W _ _ (by omega)
    have hadd2 : ∀ W, (Op.stringOp .add x x).run Try.prog W = .ok (.string (x ++ x)) W := fun W => run_string_add_sum W _ _ (by omega)
    have hsz : ∀ s ∈ [x, t, t ++ x, x ++ x], s.size ≤ maxLen := by
      unfold maxLen
      intro s hs
      simp only [List.mem_cons, List.not_mem_nil, or_false] at hs
      rcases hs with rfl | rfl | rfl | rfl
      · omega
      · omega
      · rw [ByteArray.size_append]; omega
      · rw [ByteArray.size_append]; omega
    have hS := StrsAt.new w4 x t (t ++ x) (x ++ x) 9
    have hbel4 := bel_next hR4.bel (bel_new w4 (.cells #[.string x, .string t, .string (t ++ x), .string (x ++ x)] 9))
    obtain ⟨ss, hss⟩ : ∃ ss, [x, t, t ++ x, x ++ x] = ss := ⟨_, rfl⟩
    have hsl : ss.length = 4 := by rw [← hss]; rfl
    rw [hss] at hS hsz
    clear hR4
    go_wp2_with (go_at_call 10; refine (num_any _ _).mono ?_; rintro e w4 ⟨rfl, rfl⟩)
    go_loopw [8] (fun i W => ∃ k : Nat, k ≤ 4 ∧ i = .int .i64 k ∧ StrsAt W w4.heap.size ss ∧ Below w.heap.size w W) (fun i _ => 4 - (intOf i).toNat)
    case atStart => exact ⟨0, by omega, rfl, hS, hbel4⟩
    case round =>
      rename World => w5
      clear hS hbel4 c1
      obtain ⟨k, hk, rfl, hS, hbel⟩ := hrel
      by_cases hlt : k < 4
      · obtain ⟨s, hs⟩ := getSome (l := ss) (i := k) (by omega)
        have hsm := hsz s (List.mem_of_getElem? hs)
        have d0 := hS.2 k s hs
        have hA := fun W => recall_any s W hsm
        have hA' := fun W => rall_any s W hsm
        have hln := allOf_len s
        simp only [AllPost] at hA hA'
        obtain ⟨al, ae, ha⟩ : ∃ al ae, allOf s = (al, ae) := ⟨_, _, rfl⟩
        rw [ha] at hA hA' hln
        simp only at hA hA' hln
        clear ha
        have hk0 : (0 : Int) ≤ k := by omega
        have hkl : (k : Int) < 4 := by omega
        go_wp2_with fail
        refine (hA _).mono ?_
        rintro e w6 ⟨va, rfl, hoa, hb6⟩
        have d0 := (hS.step hb6).2 k s hs
        go_wp2_with fail
        refine (hA' _).mono ?_
        rintro e w7 ⟨vb, rfl, hob, hb7⟩
        have hoa7 := hoa.below hb7
        have hb67 := bel_next hb6 hb7
        clear hoa d0 hb6 hb7
        go_wp2_with (first | (go_at_call 10; refine (num_any _ _).mono ?_; rintro e w' ⟨rfl, rfl⟩) | (go_at_call 19; refine (eqrecs_any _ _ al _ (RS.own hoa7) (RS.own hob) (by omega)).mono ?_; rintro e w8 ⟨rfl, hD⟩) | fail)
        have hb8 := bel_next hb67 (hD.below _)
        have hoa8 := hoa7.below (hD.below _)
        refine (wipe_own _ _ al _ hoa8 (by omega)).mono ?_
        rintro e w9 ⟨rfl, hg⟩
        have hb9 : Below w5.heap.size w5 w9 := hb8.grown hg hb8.size (own_row hoa8)
        clear hb8 hoa8 hoa7 hob hb67 hD hg
        go_wp2
        go_roundw
        case rel => exact ⟨k + 1, by omega, by go_num, hS.step hb9, bel_next hbel hb9⟩
        case measure => simp [intOf]; omega
      · have hlt' : (4 : Int) ≤ k := by omega
        go_wp2_with (go_at_call 13; refine (wakes_any _).mono ?_; rintro e w' ⟨rfl, hw⟩)
        go_ret
        exact ⟨rfl, bel_next hbel hw⟩
  · go_wp2
    go_ret
    exact ⟨rfl, hR1.bel⟩
end Go.Proofs.Ytmdkkagngiahcaa
