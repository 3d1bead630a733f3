/- Contracts over ops: EqOps at the same ops. -/
import Derived.Test.YtaaijlkjbmpegaaDoorLOps
namespace Go.Proofs.YtaaijlkjbmpegaaDoor
open Go.RowKit
set_option linter.unusedVariables false
set_option maxRecDepth 100000

theorem hidE {p : Prop} (h : p) : Hid p := h
set_option maxHeartbeats 800000 in
theorem eqO_sz : ∀ (s : Nat) (f : Fo) (v u : Value) (w : World), f.sz ≤ s → FS QA w v f → FS QA w u f → f.len ≤ 3518437208780 → WfB f →
    Calls Tryd.prog 11 #[v, u] w fun e w' => e = .returned (.bool true) ∧ Drawn w w' := by
  intro s
  induction s with
  | zero =>
    intro f v u w hs h h' hl hwf
    obtain rfl : f = .nil := by cases f with
      | nil => rfl
      | cons k n b r => simp [Fo.sz] at hs
    obtain ⟨a, cap, rfl⟩ := h.val
    obtain ⟨a', cap', rfl⟩ := h'.val
    simp only [Fo.len]
    go_enter Tryd.func11, Tryd.ntmps11
    go_wp2
    go_loop [5] (fun i => i = .int .i64 0) (fun _ => 0)
    case atStart => rfl
    case round =>
      subst hrel
      go_wp2
      go_ret
      exact ⟨rfl, Drawn.refl _⟩
  | succ s ih =>
    intro f v u w hs h h' hl hwf
    have hnil : f = .nil → Calls Tryd.prog 11 #[v, u] w fun e w' => e = .returned (.bool true) ∧ Drawn w w' := by
      rintro rfl
      obtain ⟨a, cap, rfl⟩ := h.val
      obtain ⟨a', cap', rfl⟩ := h'.val
      simp only [Fo.len]
      clear ih
      go_enter Tryd.func11, Tryd.ntmps11
      go_wp2
      go_loop [5] (fun i => i = .int .i64 0) (fun _ => 0)
      case atStart => rfl
      case round =>
        subst hrel
        go_wp2
        go_ret
        exact ⟨rfl, Drawn.refl _⟩
    rcases h.shape with ⟨a, cap, rfl, hf⟩ | ⟨g, o, cap, rfl, hq, hat⟩
    · exact hnil hf
    rcases h'.shape with ⟨a', cap', rfl, hf⟩ | ⟨g', o', cap', rfl, hq', hat'⟩
    · exact hnil hf
    clear hnil
    obtain ⟨n, hn⟩ : ∃ n, f.len = n := ⟨_, rfl⟩
    rw [hn] at hl ⊢
    have HN : Hid (f.len = n) := hn
    have HI : Hid (∀ (f : Fo) (v u : Value) (w : World), f.sz ≤ s → FS QA w v f → FS QA w u f → f.len ≤ 3518437208780 → WfB f →
      Calls Tryd.prog 11 #[v, u] w fun e w' => e = .returned (.bool true) ∧ Drawn w w') := ih
    clear hn ih h h'
    go_enter Tryd.func11, Tryd.ntmps11
    go_wp2
    go_loopw [5] (fun i wr => ∃ k : Nat, k ≤ n ∧ i = .int .i64 k ∧ Drawn w wr) (fun i _ => n - (intOf i).toNat)
    case atStart => exact ⟨0, by omega, rfl, Drawn.refl _⟩
    case round =>
      obtain ⟨k, hk, rfl, hD⟩ := hrel
      by_cases hlt : k < n
      · obtain ⟨kk, nn, b, r, sv, e1, e2, e3, c0, c1, c2, hsv⟩ := (hD.foAt hat).at (i := k) (by rw [HN.out]; exact hlt)
        obtain ⟨kk', nn', b', r', su, e1', e2', e3', d0, d1, d2, hsu⟩ := (hD.foAt hat').at (i := k) (by rw [HN.out]; exact hlt)
        rw [e1] at e1'
        injection e1' with q1 q2 q3 q4
        subst q1 q2 q3 q4
        obtain ⟨hb1, hb2⟩ := hwf.at e1
        have hbs := Fo.sz_blk e1
        have hc : ∀ W, FS QA W sv b → FS QA W su b → Calls Tryd.prog 11 #[sv, su] W fun e w' => e = .returned (.bool true) ∧ Drawn W w' := fun W hW hW' => HI.out b sv su W (by omega) hW hW' hb1 hb2
        have Hc := hidE hc
        have Hs := hidE hsv
        have Hu := hidE hsu
        obtain ⟨a1, cap1, rfl⟩ := hsv.val
        obtain ⟨a2, cap2, rfl⟩ := hsu.val
        clear e1 e2 e3 e2' e3' hat hat' hc hsv hsu hwf
        have hk0 : (0 : Int) ≤ k := by omega
        have hkl : (k : Int) < n := by omega
        have g0 : (kk != kk) = false := by simp
        have g1 : (nn != nn) = false := by simp
        go_wp2
        go_quiet ((go_at_call 11; exact Calls.quiet_of (Hc.out _ (Hs.out.drewN _) (Hu.out.drewN _))))
        go_wp2
        go_roundw
        case rel => exact ⟨k + 1, by omega, by go_num, hD.step _⟩
        case measure => simp [intOf]; omega
      · have hlt' : n ≤ k := by omega
        clear hat hat' hwf
        go_wp2
        go_ret
        exact ⟨rfl, hD⟩
theorem eqO_any (f : Fo) (v u : Value) (w : World) (h : FS QA w v f) (h' : FS QA w u f) (hl : f.len ≤ 3518437208780) (hwf : WfB f) :
    Calls Tryd.prog 11 #[v, u] w fun e w' => e = .returned (.bool true) ∧ Drawn w w' := eqO_sz f.sz f v u w (Nat.le_refl _) h h' hl hwf
end Go.Proofs.YtaaijlkjbmpegaaDoor
