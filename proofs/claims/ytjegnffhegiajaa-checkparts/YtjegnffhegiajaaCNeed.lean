/- check: Need, Check; the page's own: takes, need, Need, Check. -/
import Derived.Test.YtjegnffhegiajaaCList
import Derived.Test.YtjegnffhegiajaaLROps
import Derived.Deep.QuietTactic
import Derived.BigQuiet
namespace Go.Proofs.Ytjegnffhegiajaa
open Go.RowKit
set_option linter.unusedVariables false
set_option maxRecDepth 100000

/-- What Need tells: how many are left, the most, the error. -/
def needOut (f : Fo) : Int × Int × Int := if okF f 0 = true ∧ tot f ≤ 128 then (match need0 f with | some (l, p) => (l, p, 0) | none => (0, 0, 9)) else (0, 0, 1)
def nL (f : Fo) : Int := (needOut f).1
def nP (f : Fo) : Int := (needOut f).2.1
def nE (f : Fo) : Int := (needOut f).2.2
def cE (f : Fo) : Int := if nE f = 0 ∧ 0 < nL f then 9 else nE f
theorem needOut_no {f : Fo} (h : ¬ May f) : needOut f = (0, 0, 1) := if_neg h
theorem needOut_some {f : Fo} {l p : Int} (h : May f) (e : need0 f = some (l, p)) : needOut f = (l, p, 0) := by unfold needOut; rw [if_pos (show okF f 0 = true ∧ tot f ≤ 128 from h), e]
theorem needOut_none {f : Fo} (h : May f) (e : need0 f = none) : needOut f = (0, 0, 9) := by unfold needOut; rw [if_pos (show okF f 0 = true ∧ tot f ≤ 128 from h), e]
def NeedR (f : Fo) (e : Ending) : Prop := e = .returned (.tuple #[.int .i64 (nL f), .int .i64 (nP f), .int .i64 (nE f)])
theorem needR_mk {f : Fo} {l p c : Int} (h : needOut f = (l, p, c)) : NeedR f (.returned (.tuple #[.int .i64 l, .int .i64 p, .int .i64 c])) := by unfold NeedR nL nP nE; rw [h]
theorem nE_cases (f : Fo) : (nE f = 0 ∧ 0 ≤ nL f ∧ nL f ≤ nP f ∧ nP f ≤ 16 ∧ May f ∧ need0 f = some (nL f, nP f)) ∨ (nE f = 1 ∧ nL f = 0 ∧ nP f = 0 ∧ ¬ May f) ∨ (nE f = 9 ∧ nL f = 0 ∧ nP f = 0 ∧ May f ∧ need0 f = none) := by
  by_cases h : May f
  · cases e : need0 f with
    | none => have := needOut_none h e; right; right; unfold nE nL nP; rw [this]; exact ⟨rfl, rfl, rfl, h, rfl⟩
    | some x =>
      obtain ⟨l, p⟩ := x
      have hb := need0_bd e
      have := needOut_some h e
      left
      unfold nE nL nP
      rw [this]
      exact ⟨rfl, hb.1, hb.2.1, hb.2.2, h, rfl⟩
  · have := needOut_no h
    right; left
    unfold nE nL nP
    rw [this]
    exact ⟨rfl, rfl, rfl, h⟩
set_option maxHeartbeats 400000 in
theorem need_any (f : Fo) (v : Value) (w : World) (h : FS QA w v f) (hl : f.len ≤ 3518437208780) (hwf : WfB f) :
    Calls Try.prog 10 #[v] w fun e w' => NeedR f e ∧ Below w.heap.size w w' := by
  have Hc := hidK (chk_any f v w h hl hwf)
  have Hf := hidK h
  have Hwf := hidK hwf
  obtain ⟨a, cap, rfl⟩ := h.val
  clear h hwf
  go_enter Try.func10, Try.ntmps10
  go_wp2_with (go_at_call 21; refine Hc.out.mono ?_)
  rintro e w1 ⟨hr, hb⟩
  have HB := hidK hb
  rcases hr with ⟨hm, rfl⟩ | ⟨hm, rfl⟩
  · have hb2 := (Below.refl w1.heap.size w1).alloc (Nat.le_refl _) (.cells #[.int .i64 0, .int .i64 0] 54)
    have hfs := (Hf.out.below hb).below hb2
    have hs1 := hb.size
    have hL := list_chk w1.heap.size f.sz f (Nat.le_refl _) _ _ 0 0 w1.heap.size (((Hf.out.below hb).toB).belowB hb2) hl Hwf.out (BlkS.new w1 0 0) (Nat.le_refl _) (by omega) (by omega) (by omega)
    have HL := hidK hL
    have HM := hidK hm
    clear hL hfs hb hb2 hm
    go_wp2_with (go_at_call 22; refine HL.out.mono ?_)
    rintro e w2 ⟨hr, hg⟩
    have hbel : Below w.heap.size w w2 := (HB.out.alloc hs1 _).grown hg (by simp; omega) (fun k hk => by injection hk; omega)
    have HBE := hidK hbel
    clear hg hbel
    rcases hr with ⟨l, p, hn, rfl, hbs⟩ | ⟨hn, rfl⟩
    · have HR := hidK (needR_mk (needOut_some HM.out hn))
      obtain ⟨⟨c0, c1⟩, _⟩ := hbs.cells
      clear hn hbs
      go_wp2
      go_region
      go_wp2
      go_ret3
      exact ⟨HR.out, below_drewN HBE.out 1⟩
    · have HR := hidK (needR_mk (needOut_none HM.out hn))
      clear hn
      go_wp2
      go_ret3
      exact ⟨HR.out, HBE.out⟩
  · have HR := hidK (needR_mk (needOut_no hm))
    clear hm hb
    go_wp2
    go_ret3
    exact ⟨HR.out, HB.out⟩
theorem check_any (f : Fo) (v : Value) (w : World) (h : FS QA w v f) (hl : f.len ≤ 3518437208780) (hwf : WfB f) :
    Calls Try.prog 16 #[v] w fun e w' => e = .returned (.int .i64 (cE f)) ∧ Below w.heap.size w w' := by
  have Hc := hidK (need_any f v w h hl hwf)
  obtain ⟨a, cap, rfl⟩ := h.val
  unfold cE
  unfold NeedR at Hc
  have hcs := nE_cases f
  generalize nE f = c at Hc hcs ⊢
  generalize nL f = l at Hc hcs ⊢
  generalize nP f = p at Hc hcs ⊢
  clear h hwf
  rcases hcs with ⟨rfl, h1, h2, h3, _⟩ | ⟨rfl, rfl, rfl, _⟩ | ⟨rfl, rfl, rfl, _⟩
  · by_cases h0 : 0 < l
    · rw [if_pos ⟨rfl, h0⟩]
      go_enter Try.func16, Try.ntmps16
      go_wp2_with (go_at_call 10; refine Hc.out.mono ?_; rintro e w1 ⟨rfl, hb⟩)
      go_ret
      exact ⟨rfl, hb⟩
    · rw [if_neg (fun h => h0 h.2)]
      go_enter Try.func16, Try.ntmps16
      go_wp2_with (go_at_call 10; refine Hc.out.mono ?_; rintro e w1 ⟨rfl, hb⟩)
      go_ret
      exact ⟨rfl, hb⟩
  all_goals
    rw [if_neg (fun h => by have := h.2; omega)]
    go_enter Try.func16, Try.ntmps16
    go_wp2_with (go_at_call 10; refine Hc.out.mono ?_; rintro e w1 ⟨rfl, hb⟩)
    go_ret
    exact ⟨rfl, hb⟩

/-! ### The page's own -/
theorem rtakes_any (k : Int) (w : World) (h1 : 1 ≤ k) (h30 : k ≤ 30) : Calls Try.prog 29 #[.int .i64 k] w fun e w' => e = .returned (.tuple #[.int .i64 (tk k), .int .i64 (lv k)]) ∧ w' = w := by
  by_cases a1 : k ≤ 4
  · have e : tk k = 0 ∧ lv k = 1 := by unfold tk lv; split <;> split <;> omega
    rw [e.1, e.2]
    clear e
    go_enter Try.func29, Try.ntmps29
    go_wp2
    go_ret2
    exact ⟨rfl, rfl⟩
  have b1 : 5 ≤ k := by omega
  by_cases a2 : k ≤ 17
  · have e : tk k = 2 ∧ lv k = 1 := by unfold tk lv; rw [if_neg a1, if_pos a2, if_pos (by omega)]; exact ⟨rfl, rfl⟩
    rw [e.1, e.2]
    clear e
    go_enter Try.func29, Try.ntmps29
    go_wp2
    go_ret2
    exact ⟨rfl, rfl⟩
  have b2 : 18 ≤ k := by omega
  by_cases a3 : k ≤ 24
  · have e : tk k = 1 ∧ lv k = 1 := by unfold tk lv; rw [if_neg a1, if_neg a2, if_pos (by omega), if_pos a3]; exact ⟨rfl, rfl⟩
    rw [e.1, e.2]
    clear e
    go_enter Try.func29, Try.ntmps29
    go_wp2
    go_ret2
    exact ⟨rfl, rfl⟩
  have b3 : 25 ≤ k := by omega
  have hk : k = 25 ∨ k = 26 ∨ k = 27 ∨ k = 28 ∨ k = 29 ∨ k = 30 := by omega
  clear h1 h30 a1 a2 a3 b1 b2 b3
  rcases hk with rfl | rfl | rfl | rfl | rfl | rfl
  all_goals
    go_enter Try.func29, Try.ntmps29
    go_wp2
    go_ret2
    exact ⟨rfl, rfl⟩
end Go.Proofs.Ytjegnffhegiajaa
