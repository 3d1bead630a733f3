/- Texts laid together: JLawA, JErr. -/
import Derived.Test.YtclcgakfmcofaaaGreatDoorMC46
import Derived.Test.YtclcgakfmcofaaaGreatDoorMC47
import Derived.Test.YtclcgakfmcofaaaGreatDoorMC28
namespace Go.Proofs.YtclcgakfmcofaaaGreatDoor
open Go.RowKit
set_option linter.unusedVariables false
set_option maxRecDepth 100000
structure L14 (w W0 : World) (c : Cfg) (vp vl vj : Value) (L : List Jl) (x : ByteArray) : Prop where
 ask : ∀ W, Below W0.heap.size W0 W → A14 w W c vp vl vj x
 js : ∀ W, Below W0.heap.size W0 W → JS W vj L
 cfg : ∀ W, Below W0.heap.size W0 W → InC W c vp
 env : ∀ W, Below W0.heap.size W0 W → Env W
 hal : ∀ W, Below W0.heap.size W0 W → Halves W
 low : Below w.heap.size w W0
 pos : 0 < W0.heap.size
theorem L14.start {w : World} {c : Cfg} {vp vl vj : Value} {ids : List Int} {L : List Jl} {x : ByteArray} (h : In14 w c vp vl vj ids L x) (hE : Env w) (hH : Halves w) : L14 w (w.alloc (askO14 c vp vl vj x)) c vp vl vj L x := by
 have hb0 := stJ w (askO14 c vp vl vj x)
 exact ⟨A14.start w c vp vl vj x, fun W hW => (h.js.below hb0).below hW, fun W hW => (h.s.cfg.below hb0).below hW, fun W hW => (hE.low hb0).low hW, fun W hW => (hH.below hb0 hH.pos).below hW (by have := hH.pos; have := hb0.size; omega), hb0, by have := hH.pos; have := hb0.size; omega⟩
structure JC (W : World) (b o : Nat) (y : Jl) (ua : Option Addr) (uc : Nat) : Prop where
 c0 : W.cell? ⟨b, o, none⟩ = some (.int .i64 y.1.id)
 c1 : W.cell? ⟨b, o + 1, none⟩ = some (.string y.1.prog)
 c2 : W.cell? ⟨b, o + 2, none⟩ = some (.int .i64 y.1.agg)
 c3 : W.cell? ⟨b, o + 3, none⟩ = some (.int .i64 y.1.bound)
 c4 : W.cell? ⟨b, o + 4, none⟩ = some (.int .i64 y.1.fuel)
 c5 : W.cell? ⟨b, o + 5, none⟩ = some (.slice ua y.2.length uc)
 c6 : W.cell? ⟨b, o + 6, none⟩ = some (.int .i64 y.1.parts)
theorem JC.at {W : World} {b off i : Nat} {L : List Jl} {y : Jl} (h : JbsAt W b off L) (hy : L[i]? = some y) (hb : b < W.heap.size) : ∃ ua uc, ∀ W', Below W.heap.size W W' → JC W' b (off + i * 7) y ua uc ∧ NS W' (.slice ua y.2.length uc) y.2 := by
 obtain ⟨ua, uc, c0, c1, c2, c3, c4, c5, c6, hn⟩ := h i y hy
 exact ⟨ua, uc, fun W' hW => ⟨⟨(hW.cell (p := ⟨b, _, none⟩) hb).trans c0, (hW.cell (p := ⟨b, _, none⟩) hb).trans c1, (hW.cell (p := ⟨b, _, none⟩) hb).trans c2, (hW.cell (p := ⟨b, _, none⟩) hb).trans c3, (hW.cell (p := ⟨b, _, none⟩) hb).trans c4, (hW.cell (p := ⟨b, _, none⟩) hb).trans c5, (hW.cell (p := ⟨b, _, none⟩) hb).trans c6⟩, hn.below hW⟩⟩
set_option maxRecDepth 100000
def Er (e : Int) : Prop := 0 ≤ e ∧ e ≤ 14
theorem plJ_err : ∀ (fu d : Nat) (ws : List (List UInt8)) (m : Nat) (e : Int), pl fu d ws m = some (.err e) → 1 ≤ e ∧ e ≤ 14 := by
 intro fu
 induction fu with
 | zero => intro d ws m e h; simp [pl] at h
 | succ fu ih =>
  intro d ws m e h
  have hmap : ∀ (g : Fo) (d : Nat) (ws : List (List UInt8)) (m : Nat), (pl fu d ws m).map (Rs.pre g) = some (.err e) → 1 ≤ e ∧ e ≤ 14 := by
   intro g d ws m h
   cases hp : pl fu d ws m with
   | none => rw [hp] at h; cases h
   | some r =>
    rw [hp] at h
    cases r with
    | err e' =>
     simp only [Option.map_some, Rs.pre, Option.some.injEq, Rs.err.injEq] at h
     subst h
     exact ih _ _ _ _ hp
    | ok f ws m => simp [Rs.pre] at h
  cases ws with
  | nil =>
   rw [pl] at h
   split at h
   ·simp at h; omega
   ·simp at h
  | cons w ws =>
   rw [pl] at h
   split at h
   ·simp at h
   ·split at h
    ·simp at h; omega
    ·split at h
     ·simp at h; omega
     ·split at h
      ·split at h
       ·simp at h; omega
       ·split at h
        ·simp at h; omega
        ·split at h
         ·simp at h; omega
         ·split at h
          ·cases h
          ·next hp =>
           simp at h
           subst h
           exact ih _ _ _ _ hp
          ·exact hmap _ _ _ _ h
      ·exact hmap _ _ _ _ h
theorem progJ_err {s : ByteArray} {e : Int} (h : Prog s (.err e)) : 1 ≤ e ∧ e ≤ 14 := by
 unfold Prog at h
 split at h
 ·injection h with h; omega
 ·obtain ⟨fu, h⟩ := h
  exact plJ_err _ _ _ _ _ h
theorem progOfJ_err {s : ByteArray} {e : Int} (h : progOf s = .err e) : 1 ≤ e ∧ e ≤ 14 := by
 by_cases hp : ∃ r, Prog s r
 ·obtain ⟨r, hr⟩ := hp
  rw [progOf_eq hr] at h
  rw [h] at hr
  exact progJ_err hr
 ·unfold progOf at h
  rw [dif_neg hp] at h
  injection h with h
  omega
theorem cE_er (f : Fo) : Er (cE f) := by
 unfold cE Er
 rcases nE_cases f with h | h | h <;> split <;> omega
def ReE : Re → Prop
 | .err c => 1 ≤ c ∧ c ≤ 14
 | .ok _ => True
theorem rep_er {g : St → Re} (hg : ∀ s, ReE (g s)) : ∀ (i : Nat) (s : St), ReE (rep g i s)
 | 0, s => trivial
 | i + 1, s => by
  rw [rep]
  have := hg s
  split
  ·next c h => rw [h] at this; exact this
  ·exact rep_er hg i _
theorem stp_er {x : Rc} {k n : Int} {g : St → Re} (hg : ∀ s, ReE (g s)) (s : St) : ReE (stp x k n g s) := by
 unfold stp
 repeat' split
 all_goals first | trivial | exact rep_er hg _ _ | (show (1 : Int) ≤ 2 ∧ (2 : Int) ≤ 14; omega)
theorem ev_er (x : Rc) : ∀ (f : Fo) (s : St), ReE (ev x f s) := by
 intro f
 induction f with
 | nil => intro s; rw [ev]; trivial
 | cons k n b r ihb ihr =>
  intro s
  rw [ev]
  split
  ·show (1 : Int) ≤ 10 ∧ (10 : Int) ≤ 14; omega
  ·have := stp_er (x := x) (k := k) (n := n) (g := fun s => ev x b s) ihb ⟨s.fu - 1, s.st, s.out⟩
   split
   ·next c h => rw [h] at this; exact this
   ·exact ihr _
theorem runR_er (f : Fo) (x : Rc) (fu : Int) : Er (runR f x fu).1 := by
 unfold runR
 split
 ·exact cE_er f
 ·split
  ·exact ⟨by simp, by simp⟩
  ·have := ev_er x f ⟨fu.toNat, [], []⟩
   split
   ·next c h => rw [h] at this; exact ⟨by show (0 : Int) ≤ c; have := this.1; omega, this.2⟩
   ·exact ⟨by simp, by simp⟩
theorem mapL_er (f : Fo) (fu : Int) : ∀ (l acc : List Rc), Er (mapL f fu l acc).2
 | [], acc => ⟨by simp [mapL], by simp [mapL]⟩
 | x :: l, acc => by
  rw [mapL]
  split
  ·exact runR_er f x fu
  ·split
   ·exact ⟨by simp, by simp⟩
   ·exact mapL_er f fu l _
theorem mapRes_er (j : Jb) (l : List Rc) : Er (mapRes j l).2 := by
 unfold mapRes
 cases h : progOf j.prog with
 | err c => have := progOfJ_err h; exact ⟨by show (0 : Int) ≤ c; omega, this.2⟩
 | ok f ws m =>
  unfold mapP
  simp only
  split
  ·exact cE_er f
  ·split
   ·exact mapL_er f _ _ _
   ·exact ⟨by simp, by simp⟩
theorem fold_er (agg : Int) (bd : Nat) (l : List Rc) : Er (foldR agg bd l).2 := by
 rcases gat_err agg bd (ones agg l) with h | h
 ·rw [show (foldR agg bd l).2 = 0 from h]; exact ⟨by simp, by simp⟩
 ·rw [show (foldR agg bd l).2 = 11 from h]; exact ⟨by simp, by simp⟩
theorem gathRes_er (j : Jb) (l : List Rc) : Er (gathRes j l).2 := by
 unfold gathRes gathP
 split
 ·exact mapRes_er j l
 ·split
  ·exact fold_er _ _ _
  ·split
   ·exact ⟨by simp, by simp⟩
   ·exact ⟨by simp, by simp⟩
theorem recsL_er (S : List SpZ) (l : List Int) : Er (recsL S l).2 := by
 rcases recsL_err S l with h | h <;> rw [h] <;> exact ⟨by simp, by simp⟩
theorem validRes_er (c : Cfg) (j : Jb) (l : List Int) : Er (validRes c j l) := by
 unfold validRes
 split
 ·exact ⟨by simp, by simp⟩
 ·cases h : progOf j.prog with
  | err e => have := progOfJ_err h; exact ⟨by show (0 : Int) ≤ e; omega, this.2⟩
  | ok f ws m =>
   simp only
   split
   ·exact cE_er f
   ·exact recsL_er _ _
theorem togRes_er (c : Cfg) (j : Jb) (l : List Int) : Er (togRes c j l).2 := by
 unfold togRes togP
 split
 ·rcases togM_cases c j l [] with ⟨h1, h2, h3⟩ | ⟨h1, h2, k, hk, h3⟩
  ·rw [h1]; exact ⟨by simp, by simp⟩
  ·rw [← h3]; exact mapRes_er j _
 ·split
  ·exact fold_er _ _ _
  ·rcases outRes_err j.agg j.parts (foldR j.agg j.bound.toNat (togM c j l []).1).1 with h | h
   ·rw [h]; exact ⟨by simp, by simp⟩
   ·rw [h]; exact ⟨by simp, by simp⟩
theorem codes_rise (c : Cfg) (j : Jb) (l : List Int) : risL 1 64 (codesRes c j l) = true := by
 have one : ∀ e : Int, Er e → e ≠ 0 → risL 1 64 [e] = true := fun e h h0 => by
  have := h.1
  have := h.2
  unfold risL
  simp
  omega
 unfold codesRes
 split
 ·next h => exact one _ (validRes_er c j l) h
 ·unfold codesOk
  split
  ·have hr : Rise (apRes c j l) := rise_once _
   unfold risL
   rw [decide_eq_true hr, Bool.and_true, List.all_eq_true]
   intro e he
   obtain ⟨h0, i, hi, rfl⟩ := mem_apRes.1 he
   have := gathRes_er j (rcO c i)
   have := this.1
   have := (gathRes_er j (rcO c i)).2
   exact decide_eq_true (by omega)
  ·split
   ·next h => exact one _ (togRes_er c j l) h
   ·rfl
end Go.Proofs.YtclcgakfmcofaaaGreatDoor
