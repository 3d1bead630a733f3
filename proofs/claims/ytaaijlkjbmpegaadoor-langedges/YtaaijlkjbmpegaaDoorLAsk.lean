/- What the statements of stage 6 share: num, wakes, Heavy. -/
import Derived.Test.YtaaijlkjbmpegaaDoorLReadL
import Derived.Test.YtaaijlkjbmpegaaDoorLOpen
namespace Go.Proofs.YtaaijlkjbmpegaaDoor
open Go.RowKit Go.Shelf
set_option linter.unusedVariables false
set_option maxRecDepth 100000

theorem hidA {p : Prop} (h : p) : Hid p := h
theorem num_any (e : Int) (w : World) : Calls Tryd.prog 10 #[.int .i64 e] w fun r w' => r = .returned (.int .i64 e) ∧ w' = w := by
  go_enter Tryd.func10, Tryd.ntmps10
  go_wp2
  go_ret
  exact ⟨rfl, rfl⟩
theorem opW_kind {l : List UInt8} {k : Nat} (h : kindOf l = some k) : opW l = some ((k : Int), 0) := by unfold opW; rw [h]
theorem opW_num {l : List UInt8} {n : Int} (h : numOf l = some n) : opW l = some (1, n) := by unfold opW; rw [num_no_kind h, h]; rfl
theorem num_two : numOf [50] = some 2 := (numOf_iff _ _).2 ⟨by rw [show (2 : Int) = ((2 : Nat) : Int) from rfl, itoa_nat, Lib.decDigits_one (by decide)]; rfl, by decide, by decide⟩
abbrev wakeF : Fo := .cons 4 0 .nil (.cons 1 2 .nil (.cons 7 0 .nil .nil))
theorem wake_prog : Prog ⟨#[118, 32, 50, 32, 42]⟩ (.ok wakeF [] 3) := by
  unfold Prog
  rw [if_neg (by decide)]
  have h : splitG [] (L ⟨#[118, 32, 50, 32, 42]⟩) = [[118], [50], [42]] := by decide
  rw [h]
  exact PL.one (opW_kind (k := 4) (by decide)) rfl (by decide) (PL.one (opW_num num_two) rfl (by decide) (PL.one (opW_kind (k := 7) (by decide)) rfl (by decide) (PL.end0 3)))
set_option maxHeartbeats 400000 in
theorem wakes_any (w : World) (hE : Env w) : Calls Tryd.prog 13 #[] w fun e w' => e = .returned (.bool true) ∧ Below w.heap.size w w' := by
  have Hp := hidA (parse_any ⟨#[118, 32, 50, 32, 42]⟩ w (by decide) hE)
  have Hn := hidA num_any
  clear hE
  go_enter Tryd.func13, Tryd.ntmps13
  go_wp2_with (go_at_call 8; refine Hp.out.mono ?_)
  rintro e w1 ⟨r, hp, hb, hres⟩
  obtain rfl := hp.unique wake_prog
  obtain ⟨v, rfl, hown⟩ := hres
  obtain ⟨_, cap, hv, hfs⟩ := hown.fs
  rcases hfs with hf | ⟨g, o, rfl, hq, hat⟩
  · simp at hf
  obtain ⟨_, _, _, _, _, hd, _, _, _, c1, _⟩ := hat.at (i := 1) (by decide)
  simp [Fo.drop] at hd
  obtain ⟨rfl, rfl, rfl, rfl⟩ := hd
  rw [show o + 1 * 3 + 1 = o + 3 + 1 from rfl] at c1
  subst hv
  simp only [Fo.len, Nat.zero_add, Nat.reduceAdd]
  clear hown hat hq hp
  go_wp2_with (go_at_call 10; refine (Hn.out _ _).mono ?_; rintro e w' ⟨rfl, rfl⟩)
  go_ret
  exact ⟨rfl, hb⟩
/-- What Heavy tells: one of both. -/
def HeavyR (e : Ending) : Prop := ∃ r : Bool, e = .returned (.bool r)
theorem heavy_any (vs vl : Value) (l : List ByteArray) (f : Fo) (w : World) (hS : SS w vs l ∧ List.length l ≤ 8796093021952 ∧ WfS l) (hF : FS QA w vl f ∧ f.len ≤ 3518437208780 ∧ WfB f ∧ WfN f) :
    Calls Tryd.prog 7 #[.agg #[vs, vl]] w fun e w' => HeavyR e ∧ Below w.heap.size w w' := by
  have hb := (Below.refl w.heap.size w).alloc (Nat.le_refl _) (.cells #[vs, vl] 25)
  have H1 := hidA (weight_any vs l _ (hS.1.below hb) hS.2.1 hS.2.2)
  have H2 := hidA (weightO_any 12 vl f _ (hF.1.below hb) hF.2.1 hF.2.2.1 (Nat.le_refl _))
  rw [show ((12 : Nat) : Int) = 12 from rfl] at H2
  have HB := hidA hb
  obtain ⟨a, cap, rfl, _⟩ := hS.1
  obtain ⟨a', cap', rfl⟩ := hF.1.val
  clear hS hF hb
  go_enter Tryd.func7, Tryd.ntmps7
  go_wp2_with (first | (go_at_call 20; refine H1.out.mono ?_; rintro e w' ⟨⟨n, rfl, hn⟩, rfl⟩) | (go_at_call 21; refine H2.out.mono ?_; rintro e w' ⟨⟨z, rfl, hz⟩, rfl⟩))
  all_goals
    go_ret
    exact ⟨⟨_, rfl⟩, HB.out⟩
end Go.Proofs.YtaaijlkjbmpegaaDoor
