/- Texts laid together: ShiftF, EPlain, LQB, EMach, CutF, EOps, EFn, EEmit, EBlk, EDo. -/
import Derived.Test.YtclcgakfmcofaaaGreatDoorMW1
import Derived.WalkKit
import Derived.WalkSpells
import Derived.Test.YtclcgakfmcofaaaGreatDoorMW10
import Derived.Test.YtclcgakfmcofaaaGreatDoorMW2
import Derived.Maps.AppendAt
import Derived.WalkSmall
import Derived.Deep.RegionHeld3
import Derived.Deep.AppendLies
import Derived.StillTailTactics
import Derived.BigRegion
set_option linter.unusedVariables false
set_option maxRecDepth 100000
set_option linter.unusedSimpArgs false
set_option maxHeartbeats 2000000
namespace Go.Proofs.YtclcgakfmcofaaaGreatDoor
open Go.RowKit
def shL (n : Int) (k : Nat) : Int := wrap64 (n * 2 ^ k)
def shR (n : Int) (k : Nat) : Int := n / 2 ^ k
def shP (n : Int) (k : Nat) : Int := wrap64 (IntKind.u64.wrap n / 2 ^ k)
theorem mod64 (b : Int) (k : Nat) (hk : b % 64 = k) : (IntKind.u64.wrap b).tmod 64 = k := by
 rw [IntKind.wrap_u64, Int.tmod_eq_emod_of_nonneg (by omega)]; omega
theorem shift_0 (n b : Int) (k : Nat) (hk : b % 64 = k) (w : World) : Calls Tryz.prog 250 #[.int .i64 n, .int .i64 b, .int .i64 0] w fun e w' => e = .returned (.tuple #[.int .i64 (shL n k), .int .i64 0]) ∧ w' = w := by
 have hm := mod64 b k hk
 have h63 : k ≤ 63 := by omega
 clear hk
 go_enter Tryz.func250, Tryz.ntmps250
 go_wp2
 go_ret2
 exact ⟨rfl, rfl⟩
theorem shift_1 (n b : Int) (k : Nat) (hk : b % 64 = k) (w : World) : Calls Tryz.prog 250 #[.int .i64 n, .int .i64 b, .int .i64 1] w fun e w' => e = .returned (.tuple #[.int .i64 (shR n k), .int .i64 0]) ∧ w' = w := by
 have hm := mod64 b k hk
 have h63 : k ≤ 63 := by omega
 clear hk
 go_enter Tryz.func250, Tryz.ntmps250
 go_wp2
 go_ret2
 exact ⟨rfl, rfl⟩
theorem shift_2 (n b : Int) (k : Nat) (hk : b % 64 = k) (w : World) : Calls Tryz.prog 250 #[.int .i64 n, .int .i64 b, .int .i64 2] w fun e w' => e = .returned (.tuple #[.int .i64 (shP n k), .int .i64 0]) ∧ w' = w := by
 have hm := mod64 b k hk
 have h63 : k ≤ 63 := by omega
 clear hk
 go_enter Tryz.func250, Tryz.ntmps250
 go_wp2
 go_ret2
 exact ⟨rfl, rfl⟩
theorem rmod64 (b : Int) : bits .and .u64 (IntKind.u64.wrap b) 63 = ((b % 64).toNat : Int) := by
 rw [show (63 : Int) = 2 ^ 6 - 1 by decide, gG 6 (by decide) b]; omega
theorem rshift_0 (n b : Int) (w : World) : Calls Tryz.prog 243 #[.int .i64 n, .int .i64 b, .int .i64 0] w fun e w' => e = .returned (.int .i64 (shL n (b % 64).toNat)) ∧ w' = w := by
 have hm := rmod64 b
 have h63 : (b % 64).toNat ≤ 63 := by omega
 generalize (b % 64).toNat = k at *
 go_enter Tryz.func243, Tryz.ntmps243
 go_wp2
 go_ret
 exact ⟨rfl, rfl⟩
theorem rshift_1 (n b : Int) (w : World) : Calls Tryz.prog 243 #[.int .i64 n, .int .i64 b, .int .i64 1] w fun e w' => e = .returned (.int .i64 (shR n (b % 64).toNat)) ∧ w' = w := by
 have hm := rmod64 b
 have h63 : (b % 64).toNat ≤ 63 := by omega
 generalize (b % 64).toNat = k at *
 go_enter Tryz.func243, Tryz.ntmps243
 go_wp2
 go_ret
 exact ⟨rfl, rfl⟩
theorem rshift_2 (n b : Int) (w : World) : Calls Tryz.prog 243 #[.int .i64 n, .int .i64 b, .int .i64 2] w fun e w' => e = .returned (.int .i64 (shP n (b % 64).toNat)) ∧ w' = w := by
 have hm := rmod64 b
 have h63 : (b % 64).toNat ≤ 63 := by omega
 generalize (b % 64).toNat = k at *
 go_enter Tryz.func243, Tryz.ntmps243
 go_wp2
 go_ret
 exact ⟨rfl, rfl⟩
theorem shiftv_0 (n b : Int) (w : World) : Calls Tryz.prog 250 #[.int .i64 n, .int .i64 b, .int .i64 0] w fun e w' => e = .returned (.tuple #[.int .i64 (shL n (b % 64).toNat), .int .i64 0]) ∧ w' = w := shift_0 n b _ (by omega) w
theorem shiftv_1 (n b : Int) (w : World) : Calls Tryz.prog 250 #[.int .i64 n, .int .i64 b, .int .i64 1] w fun e w' => e = .returned (.tuple #[.int .i64 (shR n (b % 64).toNat), .int .i64 0]) ∧ w' = w := shift_1 n b _ (by omega) w
theorem shiftv_2 (n b : Int) (w : World) : Calls Tryz.prog 250 #[.int .i64 n, .int .i64 b, .int .i64 2] w fun e w' => e = .returned (.tuple #[.int .i64 (shP n (b % 64).toNat), .int .i64 0]) ∧ w' = w := shift_2 n b _ (by omega) w
structure St where
 fu : Nat
 st : List Int
 out : List Rc
inductive Re where
 | err (c : Int)
 | ok (s : St)
def tru (b : Bool) : Int := if b then 1 else 0
def bL (k n m : Int) : Int :=
 if k = 5 then wrap64 (n + m) else if k = 6 then wrap64 (n - m) else if k = 7 then wrap64 (n * m)
 else if k = 8 then (if m = 0 then 0 else wrap64 (n.tdiv m)) else if k = 9 then (if m = 0 then 0 else n.tmod m)
 else if k = 10 then bits .and .i64 n m else if k = 11 then bits .or .i64 n m else if k = 12 then bits .xor .i64 n m
 else if k = 13 then shL n (m % 64).toNat else if k = 14 then shR n (m % 64).toNat else if k = 15 then shP n (m % 64).toNat
 else if k = 16 then tru (decide (n < m)) else tru (n == m)
def fy (k n : Int) : Int :=
 if k = 18 then tru (n == 0) else if k = 19 then n % 256 else if k = 20 then wrap64 (IntKind.u16.wrap n) else if k = 21 then n % 4294967296
 else if k = 22 then wrap64 (IntKind.i8.wrap n) else if k = 23 then wrap64 (IntKind.i16.wrap n) else wrap64 (wrap32 n)
def gv (x : Rc) (k n : Int) : Int := if k = 2 then x.1.1 else if k = 3 then (x.1.2.size : Int) else if k = 4 then x.2 else n
def iA (g : St → Re) : Nat → St → Re
 | 0, s => .ok s
 | i + 1, s => match g s with
  | .err c => .err c
  | .ok s' => iA g i s'
def often (k n : Int) : Nat := if k = 28 then (if n = 0 then 0 else 1) else n.toNat
def hd (l : List Int) : Int := l.headD 0
def iX (x : Rc) (k n : Int) (g : St → Re) (s : St) : Re :=
 if k ≤ 4 then .ok ⟨s.fu, gv x k n :: s.st, s.out⟩
 else if k ≤ 17 then .ok ⟨s.fu, bL k (hd s.st.tail) (hd s.st) :: s.st.tail.tail, s.out⟩
 else if k ≤ 24 then .ok ⟨s.fu, fy k (hd s.st) :: s.st.tail, s.out⟩
 else if k = 25 then .ok ⟨s.fu, hd s.st :: hd s.st :: s.st.tail, s.out⟩
 else if k = 26 then .ok ⟨s.fu, hd s.st.tail :: hd s.st :: s.st.tail.tail, s.out⟩
 else if k = 27 then .ok ⟨s.fu, s.st.tail, s.out⟩
 else if k ≤ 29 then iA g (often k (hd s.st)) ⟨s.fu, s.st.tail, s.out⟩
 else if s.out.length = 256 then .err 2
 else .ok ⟨s.fu, s.st.tail.tail, s.out ++ [((hd s.st.tail, x.1.2), hd s.st)]⟩
def ev (x : Rc) : Fo → St → Re
 | .nil, s => .ok s
 | .cons k n b r, s =>
  if s.fu = 0 then .err 10 else
  match iX x k n (fun s => ev x b s) ⟨s.fu - 1, s.st, s.out⟩ with
  | .err c => .err c
  | .ok s' => ev x r s'
def ev1 (x : Rc) (k n : Int) (b : Fo) (s : St) : Re := if s.fu = 0 then .err 10 else iX x k n (ev x b) ⟨s.fu - 1, s.st, s.out⟩
theorem ev_cons (x : Rc) (k n : Int) (b r : Fo) (s : St) : ev x (.cons k n b r) s = match ev1 x k n b s with | .err c => .err c | .ok s' => ev x r s' := by
 rw [ev, ev1]
 split <;> rfl
theorem ev_no {x : Rc} {k n : Int} {b r : Fo} {s : St} (h : s.fu = 0) : ev x (.cons k n b r) s = .err 10 := by rw [ev, if_pos h]
theorem ev_err {x : Rc} {k n c : Int} {b r : Fo} {s : St} (h : s.fu ≠ 0) (h1 : iX x k n (ev x b) ⟨s.fu - 1, s.st, s.out⟩ = .err c) : ev x (.cons k n b r) s = .err c := by
 rw [ev, if_neg h]
 show (match iX x k n (ev x b) ⟨s.fu - 1, s.st, s.out⟩ with | .err c => Re.err c | .ok s' => ev x r s') = _
 rw [h1]
theorem ev_ok {x : Rc} {k n : Int} {b r : Fo} {s s' : St} (h : s.fu ≠ 0) (h1 : iX x k n (ev x b) ⟨s.fu - 1, s.st, s.out⟩ = .ok s') : ev x (.cons k n b r) s = ev x r s' := by
 rw [ev, if_neg h]
 show (match iX x k n (ev x b) ⟨s.fu - 1, s.st, s.out⟩ with | .err c => Re.err c | .ok s' => ev x r s') = _
 rw [h1]
theorem rep_nil (x : Rc) : ∀ (i : Nat) (s : St), iA (ev x .nil) i s = .ok s
 | 0, s => rfl
 | i + 1, s => by rw [iA]; show iA (ev x .nil) i s = _; exact rep_nil x i s
theorem lV {g : St → Re} {i : Nat} {s : St} {c : Int} (h : g s = .err c) : iA g (i + 1) s = .err c := by rw [iA, h]
theorem rep_ok {g : St → Re} {i : Nat} {s s' : St} (h : g s = .ok s') : iA g (i + 1) s = iA g i s' := by rw [iA, h]
structure Ok (h : Int) (s : St) : Prop where
 len : (s.st.length : Int) = h
 out : s.out.length ≤ 256
theorem oz {g : St → Re} {h : Int} {F : Nat} (hg : ∀ s s', Ok h s → g s = .ok s' → Ok h s' ∧ s'.fu ≤ s.fu) : ∀ (i : Nat) (s s' : St), Ok h s → iA g i s = .ok s' → Ok h s' ∧ s'.fu ≤ s.fu
 | 0, s, s', hs, e => by rw [iA] at e; injection e with e; subst e; exact ⟨hs, Nat.le_refl _⟩
 | i + 1, s, s', hs, e => by
  rw [iA] at e
  cases hgs : g s with
  | err c => rw [hgs] at e; cases e
  | ok s1 =>
   rw [hgs] at e
   have a := hg _ _ hs hgs
   have b := oz (F := F) hg i s1 s' a.1 e
   exact ⟨b.1, by omega⟩
theorem kG {x : Rc} {k n h : Int} {g : St → Re} {s s' : St} (hk1 : 1 ≤ k) (hk : k ≤ 30) (hs : Ok h s) (h0 : 0 ≤ h - tk k)
  (hg : ∀ s s', Ok (h - tk k + lv k) s → g s = .ok s' → Ok (h - tk k + lv k) s' ∧ s'.fu ≤ s.fu) (e : iX x k n g s = .ok s') : Ok (h - tk k + lv k) s' ∧ s'.fu ≤ s.fu := by
 unfold iX at e
 have hl := hs.len
 by_cases a1 : k ≤ 4
 ·have e1 : tk k = 0 ∧ lv k = 1 := by unfold tk lv; rw [if_pos a1, if_pos (by omega)]; exact ⟨rfl, rfl⟩
  rw [if_pos a1] at e; injection e with e; subst e
  rw [e1.1] at h0
  rw [e1.1, e1.2]
  exact ⟨⟨by simp only [List.length_cons]; omega, hs.out⟩, Nat.le_refl _⟩
 rw [if_neg a1] at e
 by_cases a2 : k ≤ 17
 ·have e1 : tk k = 2 ∧ lv k = 1 := by unfold tk lv; rw [if_neg a1, if_pos a2, if_pos (by omega)]; exact ⟨rfl, rfl⟩
  rw [if_pos a2] at e; injection e with e; subst e
  rw [e1.1] at h0
  rw [e1.1, e1.2]
  exact ⟨⟨by simp only [List.length_cons, List.length_tail]; omega, hs.out⟩, Nat.le_refl _⟩
 rw [if_neg a2] at e
 by_cases a3 : k ≤ 24
 ·have e1 : tk k = 1 ∧ lv k = 1 := by unfold tk lv; rw [if_neg a1, if_neg a2, if_pos (by omega), if_pos a3]; exact ⟨rfl, rfl⟩
  rw [if_pos a3] at e; injection e with e; subst e
  rw [e1.1] at h0
  rw [e1.1, e1.2]
  exact ⟨⟨by simp only [List.length_cons, List.length_tail]; omega, hs.out⟩, Nat.le_refl _⟩
 rw [if_neg a3] at e
 by_cases a4 : k = 25
 ·subst a4
  rw [if_pos rfl] at e; injection e with e; subst e
  have e1 : tk 25 = 1 ∧ lv 25 = 2 := by decide
  rw [e1.1] at h0
  rw [e1.1, e1.2]
  exact ⟨⟨by simp only [List.length_cons, List.length_tail]; omega, hs.out⟩, Nat.le_refl _⟩
 rw [if_neg a4] at e
 by_cases a5 : k = 26
 ·subst a5
  rw [if_pos rfl] at e; injection e with e; subst e
  have e1 : tk 26 = 2 ∧ lv 26 = 2 := by decide
  rw [e1.1] at h0
  rw [e1.1, e1.2]
  exact ⟨⟨by simp only [List.length_cons, List.length_tail]; omega, hs.out⟩, Nat.le_refl _⟩
 rw [if_neg a5] at e
 by_cases a6 : k = 27
 ·subst a6
  rw [if_pos rfl] at e; injection e with e; subst e
  have e1 : tk 27 = 1 ∧ lv 27 = 0 := by decide
  rw [e1.1] at h0
  rw [e1.1, e1.2]
  exact ⟨⟨by simp only [List.length_tail]; omega, hs.out⟩, Nat.le_refl _⟩
 rw [if_neg a6] at e
 by_cases a7 : k ≤ 29
 ·rw [if_pos a7] at e
  have e1 : tk k = 1 ∧ lv k = 0 := by
   have : k = 28 ∨ k = 29 := by omega
   rcases this with rfl | rfl <;> decide
  rw [e1.1, e1.2] at hg
  rw [e1.1] at h0
  rw [e1.1, e1.2]
  have := oz (F := 0) hg _ ⟨s.fu, s.st.tail, s.out⟩ _ ⟨by show ((s.st.tail.length : Nat) : Int) = _; rw [List.length_tail]; omega, hs.out⟩ e
  exact ⟨this.1, this.2⟩
 rw [if_neg a7] at e
 obtain rfl : k = 30 := by omega
 split at e
 ·cases e
 ·rename_i ho
  injection e with e; subst e
  have e1 : tk 30 = 2 ∧ lv 30 = 0 := by decide
  rw [e1.1] at h0
  rw [e1.1, e1.2]
  have := hs.out
  exact ⟨⟨by simp only [List.length_tail]; omega, by simp; omega⟩, Nat.le_refl _⟩
theorem fI (x : Rc) : ∀ (f : Fo) (d : Nat) (h fl m l p : Int) (s s' : St), eZ f d = true → nd f h fl m = some (l, p) → 0 ≤ fl → Ok h s → ev x f s = .ok s' → Ok l s' ∧ s'.fu + f.len ≤ s.fu := by
 intro f
 induction f with
 | nil =>
  intro d h fl m l p s s' _ hn h0 hs e
  rw [ev] at e
  injection e with e
  subst e
  simp only [nd, Option.some.injEq, Prod.mk.injEq] at hn
  obtain ⟨rfl, _⟩ := hn
  exact ⟨hs, by simp [Fo.len]⟩
 | cons k n b r ihb ihr =>
  intro d h fl m l p s s' ho hn h0 hs e
  obtain ⟨a1, a2, m2, a3, a4⟩ := jR hn
  have hlv := jQ k
  obtain ⟨hal, hbo⟩ := mI (i := 0) ho rfl
  have hkb := fH hal
  have hor : eZ r d = true := by simp only [eZ, Bool.and_eq_true] at ho; exact ho.2
  by_cases hf : s.fu = 0
  ·rw [ev_no hf] at e; cases e
  cases hst : iX x k n (ev x b) ⟨s.fu - 1, s.st, s.out⟩ with
  | err c => rw [ev_err hf hst] at e; cases e
  | ok s1 =>
   rw [ev_ok hf hst] at e
   have hk := kG (s := ⟨s.fu - 1, s.st, s.out⟩) hkb.1 hkb.2 ⟨hs.len, hs.out⟩ (by omega) (fun s s' hs e => by
    cases hb : bm k with
    | true => have := ihb _ _ _ _ _ _ _ _ (hbo hb) a3 (by omega) hs e; exact ⟨this.1, by omega⟩
    | false =>
     rw [eM hal hb, ev] at e
     injection e with e
     subst e
     exact ⟨hs, Nat.le_refl _⟩) hst
   have hr := ihr _ _ _ _ _ _ _ _ hor a4 h0 hk.1 e
   have hk2 : s1.fu ≤ s.fu - 1 := hk.2
   exact ⟨hr.1, by simp only [Fo.len]; omega⟩
def QB (B : Nat) (w : World) (b _ : Nat) : Prop := b < B
theorem FS.belowB {B : Nat} {w w' : World} {v : Value} {f : Fo} (h : FS (QB B) w v f) (hb : Below B w w') : FS (QB B) w' v f := h.move fun b o hq => ⟨hb.block b hq, hq⟩
theorem FS.toB {w : World} {v : Value} {f : Fo} (h : FS QA w v f) : FS (QB w.heap.size) w v f := h.move fun b o hq => ⟨rfl, hq⟩
theorem af {p : Prop} (h : p) : Hid p := h
def du (T : TypeId) (W : World) (R : Nat) (x : Rc) (fu : Nat) (vs vo : Value) : Prop := W.heap[R]? = some (.cells #[.int .i64 x.1.1, .string x.1.2, .int .i64 x.2, .int .i64 (fu : Int), vs, vo] T (0, 0))
theorem du.lt {T : TypeId} {W : World} {R fu : Nat} {x : Rc} {vs vo : Value} (b : du T W R x fu vs vo) : R < W.heap.size := (Array.getElem?_eq_some_iff.1 b).1
theorem du.new (T : TypeId) (W : World) (x : Rc) (fu : Nat) (vs vo : Value) : du T (W.alloc (.cells #[.int .i64 x.1.1, .string x.1.2, .int .i64 x.2, .int .i64 (fu : Int), vs, vo] T)) W.heap.size x fu vs vo := heap_alloc_new W _
theorem du.keep {T : TypeId} {W W' : World} {R fu : Nat} {x : Rc} {vs vo : Value} (b : du T W R x fu vs vo) (h : W'.heap[R]? = W.heap[R]?) : du T W' R x fu vs vo := by unfold du; rw [h]; exact b
theorem du.cells {T : TypeId} {W : World} {R fu : Nat} {x : Rc} {vs vo : Value} (b : du T W R x fu vs vo) : (W.cell? ⟨R, 0, none⟩ = some (.int .i64 x.1.1) ∧ W.cell? ⟨R, 1, none⟩ = some (.string x.1.2) ∧ W.cell? ⟨R, 2, none⟩ = some (.int .i64 x.2) ∧ W.cell? ⟨R, 3, none⟩ = some (.int .i64 (fu : Int)) ∧ W.cell? ⟨R, 4, none⟩ = some vs ∧ W.cell? ⟨R, 5, none⟩ = some vo) ∧ W.frozen? ⟨R, 3, none⟩ = false ∧ W.frozen? ⟨R, 4, none⟩ = false ∧ W.frozen? ⟨R, 5, none⟩ = false := by
 unfold du at b
 refine ⟨⟨?_, ?_, ?_, ?_, ?_, ?_⟩, ?_, ?_, ?_⟩ <;> simp [World.cell?, World.frozen?, b]
theorem du.set3 {T : TypeId} {W : World} {R fu : Nat} {x : Rc} {vs vo : Value} (b : du T W R x fu vs vo) (n : Nat) : du T (W.setCell ⟨R, 3, none⟩ (.int .i64 (n : Int))) R x n vs vo := by
 unfold du at b ⊢
 simp only [World.setCell, Array.getElem?_modify, b]
 simp
theorem du.set4 {T : TypeId} {W : World} {R fu : Nat} {x : Rc} {vs vo : Value} (b : du T W R x fu vs vo) (v : Value) : du T (W.setCell ⟨R, 4, none⟩ v) R x fu v vo := by
 unfold du at b ⊢
 simp only [World.setCell, Array.getElem?_modify, b]
 simp
theorem du.set5 {T : TypeId} {W : World} {R fu : Nat} {x : Rc} {vs vo : Value} (b : du T W R x fu vs vo) (v : Value) : du T (W.setCell ⟨R, 5, none⟩ v) R x fu vs v := by
 unfold du at b ⊢
 simp only [World.setCell, Array.getElem?_modify, b]
 simp
def Kt (T : TypeId) : Prop := T ≠ 2 ∧ T ≠ 155 ∧ T ≠ 230
abbrev nums (l : List Int) : List Value := (l.map (Value.int .i64)).reverse
structure aK (T : TypeId) (lo : Nat) (x : Rc) (R : Nat) (W : World) (vs vo : Value) (s : St) : Prop where
 ty : Kt T
 lw : lo ≤ R
 blk : du T W R x s.fu vs vo
 st : W.ownsRow lo 2 1 vs s.st.length (nums s.st)
 out : W.ownsRow lo 155 3 vo s.out.length (aP s.out)
theorem oA {w : World} {base n size k : Nat} {e : TypeId} {v : Value} {xs : List Value} (h : w.ownsRow base e size v n xs) (hk : v.ownBlock = some k) : ∃ cur, w.heap[k]? = some (.cells cur e (0, 0)) := by
 rcases h.2 with ⟨rfl, _⟩ | ⟨g, cap, cur, rfl, _, hb, _⟩
 ·cases hk
 ·injection hk with hk
  subst hk
  exact ⟨cur, hb⟩
theorem cH {w : World} {base n size k : Nat} {e T : TypeId} {v : Value} {xs : List Value} {cs : Array Value} {fr : Nat × Nat} (h : w.ownsRow base e size v n xs) (hb : w.heap[k]? = some (.cells cs T fr)) (hne : T ≠ e) : some k ≠ v.ownBlock := by
 intro e1
 obtain ⟨cur, hc⟩ := oA h e1.symm
 rw [hb] at hc
 injection hc with hc
 injection hc with _ hc _
 exact hne hc
theorem lm {w : World} {base n size base' n' size' : Nat} {e e' : TypeId} {v v' : Value} {xs xs' : List Value} (h : w.ownsRow base e size v n xs) (h' : w.ownsRow base' e' size' v' n' xs') (hne : e' ≠ e) : v'.ownBlock = none ∨ v'.ownBlock ≠ v.ownBlock := by
 cases hv : v'.ownBlock with
 | none => exact .inl rfl
 | some k =>
  obtain ⟨cur, hc⟩ := oA h' hv
  exact .inr (cH h hc hne)
structure Fr (R : Nat) (w : World) (vs vo : Value) (w' : World) (vs' vo' : Value) : Prop where
 os : w'.os = w.os
 tape : w'.tape = w.tape
 output : w'.output = w.output
 size : w.heap.size ≤ w'.heap.size
 keep : ∀ k, k < w.heap.size → k ≠ R → some k ≠ vs.ownBlock → some k ≠ vo.ownBlock → w'.heap[k]? = w.heap[k]?
 s : vs'.ownBlock = vs.ownBlock ∨ ∃ k, vs'.ownBlock = some k ∧ w.heap.size ≤ k
 o : vo'.ownBlock = vo.ownBlock ∨ ∃ k, vo'.ownBlock = some k ∧ w.heap.size ≤ k
theorem Fr.refl (R : Nat) (w : World) (vs vo : Value) : Fr R w vs vo w vs vo := ⟨rfl, rfl, rfl, Nat.le_refl _, fun _ _ _ _ _ => rfl, .inl rfl, .inl rfl⟩
theorem Fr.trans {R : Nat} {w w1 w2 : World} {vs vo vs1 vo1 vs2 vo2 : Value} (h : Fr R w vs vo w1 vs1 vo1) (g : Fr R w1 vs1 vo1 w2 vs2 vo2) : Fr R w vs vo w2 vs2 vo2 := by
 have hz := h.size
 refine ⟨g.os.trans h.os, g.tape.trans h.tape, g.output.trans h.output, Nat.le_trans hz g.size, fun k hk h1 h2 h3 => ?_, ?_, ?_⟩
 ·refine (g.keep k (by omega) h1 ?_ ?_).trans (h.keep k hk h1 h2 h3)
  ·rcases h.s with e | ⟨j, e, hj⟩
   ·rw [e]; exact h2
   ·rw [e]; intro c; injection c with c; omega
  ·rcases h.o with e | ⟨j, e, hj⟩
   ·rw [e]; exact h3
   ·rw [e]; intro c; injection c with c; omega
 ·rcases g.s with e | ⟨j, e, hj⟩
  ·rw [e]; exact h.s
  ·exact .inr ⟨j, e, by omega⟩
 ·rcases g.o with e | ⟨j, e, hj⟩
  ·rw [e]; exact h.o
  ·exact .inr ⟨j, e, by omega⟩
theorem Fr.alloc {R : Nat} {w w1 : World} {vs vo vs1 vo1 : Value} (h : Fr R w vs vo w1 vs1 vo1) (o : Obj) : Fr R w vs vo (w1.alloc o) vs1 vo1 :=
 h.trans ⟨rfl, rfl, rfl, by simp, fun k hk _ _ _ => Below.heap_alloc _ _ _ hk, .inl rfl, .inl rfl⟩
theorem aK.below {T : TypeId} {lo : Nat} {x : Rc} {R : Nat} {w w' : World} {vs vo vs' vo' : Value} {s : St} (h : aK T lo x R w vs vo s) (g : Fr R w vs vo w' vs' vo') : Below lo w w' :=
 ⟨g.os, g.tape, g.output, g.size, fun k hk => by
  have h1 := h.lw
  have h2 := h.blk.lt
  refine g.keep k (by omega) (by omega) ?_ ?_
  ·intro e; have := (h.st.lt k e.symm).1; omega
  ·intro e; have := (h.out.lt k e.symm).1; omega⟩
theorem aK.other {T : TypeId} {lo : Nat} {x : Rc} {R : Nat} {w w' : World} {vs vo vs' vo' : Value} {s : St} (h : aK T lo x R w vs vo s) (g : Fr R w vs vo w' vs' vo') {b : Nat} {cs : Array Value} {U : TypeId} {fr : Nat × Nat} (hb : w.heap[b]? = some (.cells cs U fr)) (h1 : U ≠ T) (h2 : U ≠ 2) (h3 : U ≠ 155) : w'.heap[b]? = some (.cells cs U fr) := by
 have hne : b ≠ R := by
  intro e
  subst e
  have hm := h.blk
  unfold du at hm
  rw [hb] at hm
  injection hm with hm
  injection hm with _ hm _
  exact h1 hm
 rw [g.keep b (Array.getElem?_eq_some_iff.1 hb).1 hne (cH h.st hb h2) (cH h.out hb h3)]
 exact hb
theorem aK.boxO {T : TypeId} {lo : Nat} {x : Rc} {R : Nat} {w w' : World} {vs vo vs' vo' : Value} {s : St} (h : aK T lo x R w vs vo s) (g : Fr R w vs vo w' vs' vo') {b : Nat} {k n : Int} {v : Value} (hb : aA w b k n v) : aA w' b k n v :=
 h.other g hb (fun e => h.ty.2.2 e.symm) (by decide) (by decide)
theorem aK.alloc {T : TypeId} {lo : Nat} {x : Rc} {R : Nat} {w : World} {vs vo : Value} {s : St} (h : aK T lo x R w vs vo s) (o : Obj) : aK T lo x R (w.alloc o) vs vo s :=
 ⟨h.ty, h.lw, h.blk.keep (Below.heap_alloc _ _ _ h.blk.lt), h.st.alloc o, h.out.alloc o⟩
theorem aK.drew {T : TypeId} {lo : Nat} {x : Rc} {R : Nat} {w : World} {vs vo : Value} {s : St} (h : aK T lo x R w vs vo s) (q : Nat) : aK T lo x R (w.drewN q) vs vo s := ⟨h.ty, h.lw, h.blk, h.st, h.out⟩
theorem Fr.drew {R : Nat} {w w1 : World} {vs vo vs1 vo1 : Value} (h : Fr R w vs vo w1 vs1 vo1) (q : Nat) : Fr R w vs vo (w1.drewN q) vs1 vo1 := ⟨h.os, h.tape, h.output, h.size, h.keep, h.s, h.o⟩
theorem aK.fuel {T : TypeId} {lo : Nat} {x : Rc} {R : Nat} {w : World} {vs vo : Value} {s : St} (h : aK T lo x R w vs vo s) (n : Nat) :
  aK T lo x R (w.setCell ⟨R, 3, none⟩ (.int .i64 (n : Int))) vs vo ⟨n, s.st, s.out⟩ ∧ Fr R w vs vo (w.setCell ⟨R, 3, none⟩ (.int .i64 (n : Int))) vs vo := by
 have hg : w.grownBy (w.setCell ⟨R, 3, none⟩ (.int .i64 (n : Int))) (some R) := et _ _ _ _
 refine ⟨⟨h.ty, h.lw, h.blk.set3 n, h.st.kept hg (.inr fun e => cH h.st h.blk h.ty.1 e.symm), h.out.kept hg (.inr fun e => cH h.out h.blk h.ty.2.1 e.symm)⟩, rfl, rfl, rfl, by simp [World.setCell], fun k hk h1 _ _ => Below.heap_setCell _ _ _ _ h1, .inl rfl, .inl rfl⟩
theorem aK.row4 {T : TypeId} {lo : Nat} {x : Rc} {R : Nat} {w w2 : World} {vs vo v2 : Value} {s : St} {l : List Int} (h : aK T lo x R w vs vo s) (ho : w2.ownsRow lo 2 1 v2 l.length (nums l)) (hg : w.grownBy w2 vs.ownBlock) (hat : v2.ownBlock = vs.ownBlock ∨ v2.ownBlock = some w.heap.size) :
  aK T lo x R (w2.setCell ⟨R, 4, none⟩ v2) v2 vo ⟨s.fu, l, s.out⟩ ∧ Fr R w vs vo (w2.setCell ⟨R, 4, none⟩ v2) v2 vo := by
 have hR := h.blk.lt
 have hb2 : du T w2 R x s.fu vs vo := h.blk.keep (hg.block R hR (cH h.st h.blk h.ty.1))
 have ho2 : w2.ownsRow lo 155 3 vo s.out.length (aP s.out) := h.out.kept hg (lm h.st h.out (by decide))
 have hg2 : w2.grownBy (w2.setCell ⟨R, 4, none⟩ v2) (some R) := et _ _ _ _
 refine ⟨⟨h.ty, h.lw, hb2.set4 v2, ho.kept hg2 (.inr fun e => cH ho hb2 h.ty.1 e.symm), ho2.kept hg2 (.inr fun e => cH ho2 hb2 h.ty.2.1 e.symm)⟩, hg.os, hg.tape, hg.output, by simpa [World.setCell] using hg.size, fun k hk h1 h2 _ => (Below.heap_setCell _ _ _ _ h1).trans (hg.block k hk h2), ?_, .inl rfl⟩
 rcases hat with e | e
 ·exact .inl e
 ·exact .inr ⟨_, e, Nat.le_refl _⟩
theorem aK.row5 {T : TypeId} {lo : Nat} {x : Rc} {R : Nat} {w w2 : World} {vs vo v2 : Value} {s : St} {l : List Rc} (h : aK T lo x R w vs vo s) (ho : w2.ownsRow lo 155 3 v2 l.length (aP l)) (hg : w.grownBy w2 vo.ownBlock) (hat : v2.ownBlock = vo.ownBlock ∨ v2.ownBlock = some w.heap.size) :
  aK T lo x R (w2.setCell ⟨R, 5, none⟩ v2) vs v2 ⟨s.fu, s.st, l⟩ ∧ Fr R w vs vo (w2.setCell ⟨R, 5, none⟩ v2) vs v2 := by
 have hR := h.blk.lt
 have hb2 : du T w2 R x s.fu vs vo := h.blk.keep (hg.block R hR (cH h.out h.blk h.ty.2.1))
 have ho2 : w2.ownsRow lo 2 1 vs s.st.length (nums s.st) := h.st.kept hg (lm h.out h.st (by decide))
 have hg2 : w2.grownBy (w2.setCell ⟨R, 5, none⟩ v2) (some R) := et _ _ _ _
 refine ⟨⟨h.ty, h.lw, hb2.set5 v2, ho2.kept hg2 (.inr fun e => cH ho2 hb2 h.ty.1 e.symm), ho.kept hg2 (.inr fun e => cH ho hb2 h.ty.2.1 e.symm)⟩, hg.os, hg.tape, hg.output, by simpa [World.setCell] using hg.size, fun k hk h1 _ h2 => (Below.heap_setCell _ _ _ _ h1).trans (hg.block k hk h2), .inl rfl, ?_⟩
 rcases hat with e | e
 ·exact .inl e
 ·exact .inr ⟨_, e, Nat.le_refl _⟩
theorem aK.last {T : TypeId} {lo : Nat} {x : Rc} {R : Nat} {w : World} {vs vo : Value} {s : St} {a : Int} {r : List Int} (h : aK T lo x R w vs vo s) (hs : s.st = a :: r) : ∃ g cap, vs = .slice (some ⟨g, 0, none⟩) (r.length + 1) cap ∧ (r.length < cap ∧ cap ≤ maxLen) ∧ w.cell? ⟨g, r.length, none⟩ = some (.int .i64 a) ∧
  (aK T lo x R (w.setCell ⟨R, 4, none⟩ (.slice (some ⟨g, 0, none⟩) r.length cap)) (.slice (some ⟨g, 0, none⟩) r.length cap) vo ⟨s.fu, r, s.out⟩ ∧ Fr R w vs vo (w.setCell ⟨R, 4, none⟩ (.slice (some ⟨g, 0, none⟩) r.length cap)) (.slice (some ⟨g, 0, none⟩) r.length cap) vo) := by
 have ho := h.st
 rw [hs] at ho
 rcases ho.2 with ⟨_, h0⟩ | ⟨g, cap, cur, hv, hlo, hb, hn, hm, hz, ht⟩
 ·simp at h0
 ·have hv' : vs = .slice (some ⟨g, 0, none⟩) (r.length + 1) cap := hv
  refine ⟨g, cap, hv', ⟨by simp at hn; omega, hm⟩, ?_, ?_⟩
  ·have hc := ho.cells (g := g) (by rw [hv']; rfl) r.length (.int .i64 a) (by simp [nums])
   rwa [Addr.add_lit, Nat.zero_add] at hc
  ·subst hv'
   have ho' : w.ownsRow lo 2 1 (.slice (some ⟨g, 0, none⟩) (r.length + 1) cap) (r.length + 1) (nums r ++ [.int .i64 a]) := by simpa [nums] using ho
   have hp := ownsRow_pop (xs := nums r) (by simp [nums]) ho'
   exact h.row4 hp (World.grownBy.refl _ _) (.inl rfl)
theorem bu {W : World} {base : Nat} {e : TypeId} {size : Nat} {v : Value} {k : Nat} {xs : List Value} (h : W.ownsRow base e size v (k + 1) xs) : ∃ g cap, v = .slice (some ⟨g, 0, none⟩) (k + 1) cap := by
 rcases h.2 with ⟨_, h0⟩ | ⟨g, cap, cur, h, _⟩
 ·omega
 ·exact ⟨g, cap, h⟩
theorem bz {W : World} {base : Nat} {e : TypeId} {size : Nat} {v : Value} {k : Nat} {xs : List Value} (h : W.ownsRow base e size v k xs) : ∃ a cap, v = .slice a k cap := by
 rcases h.2 with ⟨rfl, h0⟩ | ⟨g, cap, cur, rfl, _⟩
 ·exact ⟨none, 0, by rw [h0]⟩
 ·exact ⟨_, cap, rfl⟩
theorem aK.after5 {T : TypeId} {lo : Nat} {x : Rc} {R : Nat} {w w3 : World} {vs vo : Value} {s : St} {o : Obj} (h : aK T lo x R w vs vo s) (hg : (w.alloc o).grownBy w3 vo.ownBlock) : w3.cell? ⟨R, 5, none⟩ = some vo ∧ w3.frozen? ⟨R, 5, none⟩ = false ∧ w3.cell? ⟨R, 1, none⟩ = some (.string x.1.2) := by
 have h2 := h.alloc o
 obtain ⟨⟨_, d, _, _, _, c⟩, _, _, z⟩ := (h2.blk.keep (hg.block R h2.blk.lt (cH h2.out h2.blk h2.ty.2.1))).cells
 exact ⟨c, z, d⟩
def MR (T : TypeId) (lo : Nat) (x : Rc) (R : Nat) (w : World) (vs vo : Value) (w' : World) (s' : St) : Prop := ∃ vs' vo', aK T lo x R w' vs' vo' s' ∧ Fr R w vs vo w' vs' vo'
theorem mask8 (n : Int) : bits .and .u64 (IntKind.u64.wrap n) 255 = n % 256 := gG 8 (by decide) n
theorem mask16 (n : Int) : bits .and .u64 (IntKind.u64.wrap n) 65535 = n % 65536 := gG 16 (by decide) n
theorem mask32 (n : Int) : bits .and .u64 (IntKind.u64.wrap n) 4294967295 = n % 4294967296 := gG 32 (by decide) n
theorem wrap_i8 (n : Int) : IntKind.i8.wrap n = (n + 128) % 256 - 128 := by
 simp only [IntKind.wrap, IntKind.bits, IntKind.signed]; simp; split <;> omega
theorem wrap_i16 (n : Int) : IntKind.i16.wrap n = (n + 32768) % 65536 - 32768 := by
 simp only [IntKind.wrap, IntKind.bits, IntKind.signed]; simp; split <;> omega
theorem fill8 (n : Int) : bits .or .u64 (n % 256) (IntKind.u64.wrap 4722366482869645213440) = n % 256 + 18446744073709551360 := by
 rw [IntKind.wrap_u64, show (4722366482869645213440 : Int) % 18446744073709551616 = 18446744073709551360 by decide, cS 8 18446744073709551360 (n % 256) (by decide) (by decide) (by decide) (by omega) (by omega) (by omega)]; omega
theorem fill16 (n : Int) : bits .or .u64 (n % 65536) (IntKind.u64.wrap 1208925819614629174640640) = n % 65536 + 18446744073709486080 := by
 rw [IntKind.wrap_u64, show (1208925819614629174640640 : Int) % 18446744073709551616 = 18446744073709486080 by decide, cS 16 18446744073709486080 (n % 65536) (by decide) (by decide) (by decide) (by omega) (by omega) (by omega)]; omega
theorem fill32 (n : Int) : bits .or .u64 (n % 4294967296) (IntKind.u64.wrap 79228162514264337589248983040) = n % 4294967296 + 18446744069414584320 := by
 rw [IntKind.wrap_u64, show (79228162514264337589248983040 : Int) % 18446744073709551616 = 18446744069414584320 by decide, cS 32 18446744069414584320 (n % 4294967296) (by decide) (by decide) (by decide) (by omega) (by omega) (by omega)]; omega
theorem cut_8f (n : Int) (w : World) : Calls Tryz.prog 251 #[.int .i64 n, .int .i64 8, .bool false] w fun e w' => e = .returned (.tuple #[.int .i64 (n % 256), .int .i64 0]) ∧ w' = w := by
 go_enter Tryz.func251, Tryz.ntmps251
 go_wp2
 go_ret2
 exact ⟨rfl, rfl⟩
theorem rcut_8f (n : Int) (w : World) : Calls Tryz.prog 212 #[.int .i64 n, .int .i64 8, .bool false] w fun e w' => e = .returned (.int .i64 (n % 256)) ∧ w' = w := by
 have hm := mask8 n
 go_enter Tryz.func212, Tryz.ntmps212
 go_wp2
 go_ret
 exact ⟨rfl, rfl⟩
theorem cut_16f (n : Int) (w : World) : Calls Tryz.prog 251 #[.int .i64 n, .int .i64 16, .bool false] w fun e w' => e = .returned (.tuple #[.int .i64 (wrap64 (IntKind.u16.wrap n)), .int .i64 0]) ∧ w' = w := by
 go_enter Tryz.func251, Tryz.ntmps251
 go_wp2
 go_ret2
 exact ⟨rfl, rfl⟩
theorem rcut_16f (n : Int) (w : World) : Calls Tryz.prog 212 #[.int .i64 n, .int .i64 16, .bool false] w fun e w' => e = .returned (.int .i64 (wrap64 (IntKind.u16.wrap n))) ∧ w' = w := by
 have hm := mask16 n
 have H : Hid (n % 65536 = wrap64 (IntKind.u16.wrap n)) := by unfold Hid wrap64; rw [IntKind.wrap_u16]; omega
 go_enter Tryz.func212, Tryz.ntmps212
 go_wp2
 go_ret
 exact ⟨bH H.out, rfl⟩
theorem cut_32f (n : Int) (w : World) : Calls Tryz.prog 251 #[.int .i64 n, .int .i64 32, .bool false] w fun e w' => e = .returned (.tuple #[.int .i64 (n % 4294967296), .int .i64 0]) ∧ w' = w := by
 go_enter Tryz.func251, Tryz.ntmps251
 go_wp2
 go_ret2
 exact ⟨rfl, rfl⟩
theorem rcut_32f (n : Int) (w : World) : Calls Tryz.prog 212 #[.int .i64 n, .int .i64 32, .bool false] w fun e w' => e = .returned (.int .i64 (n % 4294967296)) ∧ w' = w := by
 have hm := mask32 n
 go_enter Tryz.func212, Tryz.ntmps212
 go_wp2
 go_ret
 exact ⟨rfl, rfl⟩
theorem cut_8t (n : Int) (w : World) : Calls Tryz.prog 251 #[.int .i64 n, .int .i64 8, .bool true] w fun e w' => e = .returned (.tuple #[.int .i64 (wrap64 (IntKind.i8.wrap n)), .int .i64 0]) ∧ w' = w := by
 go_enter Tryz.func251, Tryz.ntmps251
 go_wp2
 go_ret2
 exact ⟨rfl, rfl⟩
theorem rcut_8t (n : Int) (w : World) : Calls Tryz.prog 212 #[.int .i64 n, .int .i64 8, .bool true] w fun e w' => e = .returned (.int .i64 (wrap64 (IntKind.i8.wrap n))) ∧ w' = w := by
 have hm := mask8 n
 have hf := fill8 n
 by_cases h : n % 256 < 128
 ·have ht : (n % 256 / 128 == 1) = false := by simp; omega
  have H : Hid (n % 256 = wrap64 (IntKind.i8.wrap n)) := by unfold Hid wrap64; rw [wrap_i8]; omega
  clear h hf
  go_enter Tryz.func212, Tryz.ntmps212
  go_wp2
  go_ret
  exact ⟨bH H.out, rfl⟩
 ·have ht : (n % 256 / 128 == 1) = true := by simp; omega
  have H : Hid (wrap64 (n % 256 + 18446744073709551360) = wrap64 (IntKind.i8.wrap n)) := by unfold Hid wrap64; rw [wrap_i8]; omega
  clear h
  go_enter Tryz.func212, Tryz.ntmps212
  go_wp2
  go_ret
  exact ⟨bH H.out, rfl⟩
theorem cut_16t (n : Int) (w : World) : Calls Tryz.prog 251 #[.int .i64 n, .int .i64 16, .bool true] w fun e w' => e = .returned (.tuple #[.int .i64 (wrap64 (IntKind.i16.wrap n)), .int .i64 0]) ∧ w' = w := by
 go_enter Tryz.func251, Tryz.ntmps251
 go_wp2
 go_ret2
 exact ⟨rfl, rfl⟩
theorem rcut_16t (n : Int) (w : World) : Calls Tryz.prog 212 #[.int .i64 n, .int .i64 16, .bool true] w fun e w' => e = .returned (.int .i64 (wrap64 (IntKind.i16.wrap n))) ∧ w' = w := by
 have hm := mask16 n
 have hf := fill16 n
 by_cases h : n % 65536 < 32768
 ·have ht : (n % 65536 / 32768 == 1) = false := by simp; omega
  have H : Hid (n % 65536 = wrap64 (IntKind.i16.wrap n)) := by unfold Hid wrap64; rw [wrap_i16]; omega
  clear h hf
  go_enter Tryz.func212, Tryz.ntmps212
  go_wp2
  go_ret
  exact ⟨bH H.out, rfl⟩
 ·have ht : (n % 65536 / 32768 == 1) = true := by simp; omega
  have H : Hid (wrap64 (n % 65536 + 18446744073709486080) = wrap64 (IntKind.i16.wrap n)) := by unfold Hid wrap64; rw [wrap_i16]; omega
  clear h
  go_enter Tryz.func212, Tryz.ntmps212
  go_wp2
  go_ret
  exact ⟨bH H.out, rfl⟩
theorem cut_32t (n : Int) (w : World) : Calls Tryz.prog 251 #[.int .i64 n, .int .i64 32, .bool true] w fun e w' => e = .returned (.tuple #[.int .i64 (wrap64 (wrap32 n)), .int .i64 0]) ∧ w' = w := by
 go_enter Tryz.func251, Tryz.ntmps251
 go_wp2
 go_ret2
 exact ⟨rfl, rfl⟩
theorem rcut_32t (n : Int) (w : World) : Calls Tryz.prog 212 #[.int .i64 n, .int .i64 32, .bool true] w fun e w' => e = .returned (.int .i64 (wrap64 (wrap32 n))) ∧ w' = w := by
 have hm := mask32 n
 have hf := fill32 n
 by_cases h : n % 4294967296 < 2147483648
 ·have ht : (n % 4294967296 / 2147483648 == 1) = false := by simp; omega
  have H : Hid (n % 4294967296 = wrap64 (wrap32 n)) := by unfold Hid wrap64; unfold wrap32; omega
  clear h hf
  go_enter Tryz.func212, Tryz.ntmps212
  go_wp2
  go_ret
  exact ⟨bH H.out, rfl⟩
 ·have ht : (n % 4294967296 / 2147483648 == 1) = true := by simp; omega
  have H : Hid (wrap64 (n % 4294967296 + 18446744069414584320) = wrap64 (wrap32 n)) := by unfold Hid wrap64; unfold wrap32; omega
  clear h
  go_enter Tryz.func212, Tryz.ntmps212
  go_wp2
  go_ret
  exact ⟨bH H.out, rfl⟩
theorem jS (b : Bool) (w : World) : Calls Tryz.prog 249 #[.bool b] w fun e w' => e = .returned (.int .i64 (tru b)) ∧ w' = w := by
 cases b
 all_goals
  go_enter Tryz.func249, Tryz.ntmps249
  go_wp2
  go_ret
  exact ⟨rfl, rfl⟩
theorem divide_8 (n m : Int) (w : World) : Calls Tryz.prog 248 #[.int .i64 8, .int .i64 n, .int .i64 m] w fun e w' => e = .returned (.int .i64 (bL 8 n m)) ∧ w' = w := by
 show Calls _ _ _ _ fun e w' => e = .returned (.int .i64 (if m = 0 then 0 else wrap64 (n.tdiv m))) ∧ w' = w
 by_cases h : m = 0
 ·subst h
  go_enter Tryz.func248, Tryz.ntmps248
  go_wp2
  go_ret
  exact ⟨rfl, rfl⟩
 ·have hne : (m == 0) = false := beq_eq_false_iff_ne.2 h
  rw [if_neg h]
  go_enter Tryz.func248, Tryz.ntmps248
  go_wp2
  go_ret
  exact ⟨rfl, rfl⟩
theorem divide_9 (n m : Int) (w : World) : Calls Tryz.prog 248 #[.int .i64 9, .int .i64 n, .int .i64 m] w fun e w' => e = .returned (.int .i64 (bL 9 n m)) ∧ w' = w := by
 show Calls _ _ _ _ fun e w' => e = .returned (.int .i64 (if m = 0 then 0 else n.tmod m)) ∧ w' = w
 by_cases h : m = 0
 ·subst h
  go_enter Tryz.func248, Tryz.ntmps248
  go_wp2
  go_ret
  exact ⟨rfl, rfl⟩
 ·have hne : (m == 0) = false := beq_eq_false_iff_ne.2 h
  rw [if_neg h]
  go_enter Tryz.func248, Tryz.ntmps248
  go_wp2
  go_ret
  exact ⟨rfl, rfl⟩
theorem ofTwo_5 (n m : Int) (w : World) : Calls Tryz.prog 224 #[.int .i64 5, .int .i64 n, .int .i64 m] w fun e w' => e = .returned (.int .i64 (bL 5 n m)) ∧ w' = w := by
 rw [show bL 5 n m = wrap64 (n + m) from rfl]
 go_enter Tryz.func224, Tryz.ntmps224
 go_wp2
 go_ret
 exact ⟨rfl, rfl⟩
theorem ofTwo_6 (n m : Int) (w : World) : Calls Tryz.prog 224 #[.int .i64 6, .int .i64 n, .int .i64 m] w fun e w' => e = .returned (.int .i64 (bL 6 n m)) ∧ w' = w := by
 rw [show bL 6 n m = wrap64 (n - m) from rfl]
 go_enter Tryz.func224, Tryz.ntmps224
 go_wp2
 go_ret
 exact ⟨rfl, rfl⟩
theorem ofTwo_7 (n m : Int) (w : World) : Calls Tryz.prog 224 #[.int .i64 7, .int .i64 n, .int .i64 m] w fun e w' => e = .returned (.int .i64 (bL 7 n m)) ∧ w' = w := by
 rw [show bL 7 n m = wrap64 (n * m) from rfl]
 go_enter Tryz.func224, Tryz.ntmps224
 go_wp2
 go_ret
 exact ⟨rfl, rfl⟩
theorem ofTwo_8 (n m : Int) (w : World) : Calls Tryz.prog 224 #[.int .i64 8, .int .i64 n, .int .i64 m] w fun e w' => e = .returned (.int .i64 (bL 8 n m)) ∧ w' = w := by
 generalize hg : bL 8 n m = z
 have Hd := divide_8 n m w
 rw [hg] at Hd
 clear hg
 go_enter Tryz.func224, Tryz.ntmps224
 go_wp2_with (go_at_call 248; refine Hd.mono ?_; rintro e w' ⟨rfl, rfl⟩)
 go_ret
 exact ⟨rfl, rfl⟩
theorem ofTwo_9 (n m : Int) (w : World) : Calls Tryz.prog 224 #[.int .i64 9, .int .i64 n, .int .i64 m] w fun e w' => e = .returned (.int .i64 (bL 9 n m)) ∧ w' = w := by
 generalize hg : bL 9 n m = z
 have Hd := divide_9 n m w
 rw [hg] at Hd
 clear hg
 go_enter Tryz.func224, Tryz.ntmps224
 go_wp2_with (go_at_call 248; refine Hd.mono ?_; rintro e w' ⟨rfl, rfl⟩)
 go_ret
 exact ⟨rfl, rfl⟩
theorem ofTwo_10 (n m : Int) (w : World) : Calls Tryz.prog 224 #[.int .i64 10, .int .i64 n, .int .i64 m] w fun e w' => e = .returned (.int .i64 (bL 10 n m)) ∧ w' = w := by
 rw [show bL 10 n m = bits .and .i64 n m from rfl]
 go_enter Tryz.func224, Tryz.ntmps224
 go_wp2
 go_ret
 exact ⟨rfl, rfl⟩
theorem ofTwo_11 (n m : Int) (w : World) : Calls Tryz.prog 224 #[.int .i64 11, .int .i64 n, .int .i64 m] w fun e w' => e = .returned (.int .i64 (bL 11 n m)) ∧ w' = w := by
 rw [show bL 11 n m = bits .or .i64 n m from rfl]
 go_enter Tryz.func224, Tryz.ntmps224
 go_wp2
 go_ret
 exact ⟨rfl, rfl⟩
theorem ofTwo_12 (n m : Int) (w : World) : Calls Tryz.prog 224 #[.int .i64 12, .int .i64 n, .int .i64 m] w fun e w' => e = .returned (.int .i64 (bL 12 n m)) ∧ w' = w := by
 rw [show bL 12 n m = bits .xor .i64 n m from rfl]
 go_enter Tryz.func224, Tryz.ntmps224
 go_wp2
 go_ret
 exact ⟨rfl, rfl⟩
theorem ofTwo_13 (n m : Int) (w : World) : Calls Tryz.prog 224 #[.int .i64 13, .int .i64 n, .int .i64 m] w fun e w' => e = .returned (.int .i64 (bL 13 n m)) ∧ w' = w := by
 rw [show bL 13 n m = shL n (m % 64).toNat from rfl]
 go_enter Tryz.func224, Tryz.ntmps224
 go_wp2_with (go_at_call 250; refine (shiftv_0 _ _ _).mono ?_; rintro e w' ⟨rfl, rfl⟩)
 go_ret
 exact ⟨rfl, rfl⟩
theorem ofTwo_14 (n m : Int) (w : World) : Calls Tryz.prog 224 #[.int .i64 14, .int .i64 n, .int .i64 m] w fun e w' => e = .returned (.int .i64 (bL 14 n m)) ∧ w' = w := by
 rw [show bL 14 n m = shR n (m % 64).toNat from rfl]
 go_enter Tryz.func224, Tryz.ntmps224
 go_wp2_with (go_at_call 250; refine (shiftv_1 _ _ _).mono ?_; rintro e w' ⟨rfl, rfl⟩)
 go_ret
 exact ⟨rfl, rfl⟩
theorem ofTwo_15 (n m : Int) (w : World) : Calls Tryz.prog 224 #[.int .i64 15, .int .i64 n, .int .i64 m] w fun e w' => e = .returned (.int .i64 (bL 15 n m)) ∧ w' = w := by
 rw [show bL 15 n m = shP n (m % 64).toNat from rfl]
 go_enter Tryz.func224, Tryz.ntmps224
 go_wp2_with (go_at_call 250; refine (shiftv_2 _ _ _).mono ?_; rintro e w' ⟨rfl, rfl⟩)
 go_ret
 exact ⟨rfl, rfl⟩
theorem ofTwo_16 (n m : Int) (w : World) : Calls Tryz.prog 224 #[.int .i64 16, .int .i64 n, .int .i64 m] w fun e w' => e = .returned (.int .i64 (bL 16 n m)) ∧ w' = w := by
 rw [show bL 16 n m = tru (decide (n < m)) from rfl]
 go_enter Tryz.func224, Tryz.ntmps224
 go_wp2_with (go_at_call 249; refine (jS _ _).mono ?_; rintro e w' ⟨rfl, rfl⟩)
 go_ret
 exact ⟨rfl, rfl⟩
theorem ofTwo_17 (n m : Int) (w : World) : Calls Tryz.prog 224 #[.int .i64 17, .int .i64 n, .int .i64 m] w fun e w' => e = .returned (.int .i64 (bL 17 n m)) ∧ w' = w := by
 rw [show bL 17 n m = tru (n == m) from rfl]
 go_enter Tryz.func224, Tryz.ntmps224
 go_wp2_with (go_at_call 249; refine (jS _ _).mono ?_; rintro e w' ⟨rfl, rfl⟩)
 go_ret
 exact ⟨rfl, rfl⟩
theorem ofTwo_any (k n m : Int) (w : World) (h5 : 5 ≤ k) (h17 : k ≤ 17) : Calls Tryz.prog 224 #[.int .i64 k, .int .i64 n, .int .i64 m] w fun e w' => e = .returned (.int .i64 (bL k n m)) ∧ w' = w := by
 have hk : k = 5 ∨ k = 6 ∨ k = 7 ∨ k = 8 ∨ k = 9 ∨ k = 10 ∨ k = 11 ∨ k = 12 ∨ k = 13 ∨ k = 14 ∨ k = 15 ∨ k = 16 ∨ k = 17 := by omega
 rcases hk with rfl | rfl | rfl | rfl | rfl | rfl | rfl | rfl | rfl | rfl | rfl | rfl | rfl
 ·exact ofTwo_5 n m w
 ·exact ofTwo_6 n m w
 ·exact ofTwo_7 n m w
 ·exact ofTwo_8 n m w
 ·exact ofTwo_9 n m w
 ·exact ofTwo_10 n m w
 ·exact ofTwo_11 n m w
 ·exact ofTwo_12 n m w
 ·exact ofTwo_13 n m w
 ·exact ofTwo_14 n m w
 ·exact ofTwo_15 n m w
 ·exact ofTwo_16 n m w
 ·exact ofTwo_17 n m w
theorem ofOne_18 (n : Int) (w : World) : Calls Tryz.prog 225 #[.int .i64 18, .int .i64 n] w fun e w' => e = .returned (.int .i64 (fy 18 n)) ∧ w' = w := by
 rw [show fy 18 n = tru (n == 0) from rfl]
 go_enter Tryz.func225, Tryz.ntmps225
 go_wp2_with (go_at_call 249; refine (jS _ _).mono ?_; rintro e w' ⟨rfl, rfl⟩)
 go_ret
 exact ⟨rfl, rfl⟩
theorem ofOne_19 (n : Int) (w : World) : Calls Tryz.prog 225 #[.int .i64 19, .int .i64 n] w fun e w' => e = .returned (.int .i64 (fy 19 n)) ∧ w' = w := by
 rw [show fy 19 n = n % 256 from rfl]
 go_enter Tryz.func225, Tryz.ntmps225
 go_wp2_with (go_at_call 251; refine (cut_8f _ _).mono ?_; rintro e w' ⟨rfl, rfl⟩)
 go_ret
 exact ⟨rfl, rfl⟩
theorem ofOne_20 (n : Int) (w : World) : Calls Tryz.prog 225 #[.int .i64 20, .int .i64 n] w fun e w' => e = .returned (.int .i64 (fy 20 n)) ∧ w' = w := by
 rw [show fy 20 n = wrap64 (IntKind.u16.wrap n) from rfl]
 go_enter Tryz.func225, Tryz.ntmps225
 go_wp2_with (go_at_call 251; refine (cut_16f _ _).mono ?_; rintro e w' ⟨rfl, rfl⟩)
 go_ret
 exact ⟨rfl, rfl⟩
theorem ofOne_21 (n : Int) (w : World) : Calls Tryz.prog 225 #[.int .i64 21, .int .i64 n] w fun e w' => e = .returned (.int .i64 (fy 21 n)) ∧ w' = w := by
 rw [show fy 21 n = n % 4294967296 from rfl]
 go_enter Tryz.func225, Tryz.ntmps225
 go_wp2_with (go_at_call 251; refine (cut_32f _ _).mono ?_; rintro e w' ⟨rfl, rfl⟩)
 go_ret
 exact ⟨rfl, rfl⟩
theorem ofOne_22 (n : Int) (w : World) : Calls Tryz.prog 225 #[.int .i64 22, .int .i64 n] w fun e w' => e = .returned (.int .i64 (fy 22 n)) ∧ w' = w := by
 rw [show fy 22 n = wrap64 (IntKind.i8.wrap n) from rfl]
 go_enter Tryz.func225, Tryz.ntmps225
 go_wp2_with (go_at_call 251; refine (cut_8t _ _).mono ?_; rintro e w' ⟨rfl, rfl⟩)
 go_ret
 exact ⟨rfl, rfl⟩
theorem ofOne_23 (n : Int) (w : World) : Calls Tryz.prog 225 #[.int .i64 23, .int .i64 n] w fun e w' => e = .returned (.int .i64 (fy 23 n)) ∧ w' = w := by
 rw [show fy 23 n = wrap64 (IntKind.i16.wrap n) from rfl]
 go_enter Tryz.func225, Tryz.ntmps225
 go_wp2_with (go_at_call 251; refine (cut_16t _ _).mono ?_; rintro e w' ⟨rfl, rfl⟩)
 go_ret
 exact ⟨rfl, rfl⟩
theorem ofOne_24 (n : Int) (w : World) : Calls Tryz.prog 225 #[.int .i64 24, .int .i64 n] w fun e w' => e = .returned (.int .i64 (fy 24 n)) ∧ w' = w := by
 rw [show fy 24 n = wrap64 (wrap32 n) from rfl]
 go_enter Tryz.func225, Tryz.ntmps225
 go_wp2_with (go_at_call 251; refine (cut_32t _ _).mono ?_; rintro e w' ⟨rfl, rfl⟩)
 go_ret
 exact ⟨rfl, rfl⟩
theorem ofOne_any (k n : Int) (w : World) (h18 : 18 ≤ k) (h24 : k ≤ 24) : Calls Tryz.prog 225 #[.int .i64 k, .int .i64 n] w fun e w' => e = .returned (.int .i64 (fy k n)) ∧ w' = w := by
 have hk : k = 18 ∨ k = 19 ∨ k = 20 ∨ k = 21 ∨ k = 22 ∨ k = 23 ∨ k = 24 := by omega
 rcases hk with rfl | rfl | rfl | rfl | rfl | rfl | rfl
 ·exact ofOne_18 n w
 ·exact ofOne_19 n w
 ·exact ofOne_20 n w
 ·exact ofOne_21 n w
 ·exact ofOne_22 n w
 ·exact ofOne_23 n w
 ·exact ofOne_24 n w
theorem Tryz.info2E : (Tryz.prog.info? 2).map (fun i => (i.zero, i.size, i.bytes)) = some (some (.int .i64 0), 1, 8) := by kernel_rfl
abbrev TE : TypeId := 252
theorem kt_E : Kt TE := by unfold Kt; decide
theorem bR (n : Int) : ∀ u ∈ [Value.int .i64 n], u.oneCell' = true := by intro u hu; simp at hu; subst hu; rfl
theorem oB (n : Int) (l : List Int) : nums (n :: l) = nums l ++ [.int .i64 n] := by simp [nums]
theorem fY {lo : Nat} {x : Rc} {R : Nat} {w : World} {vs vo : Value} {s : St} (n : Int) (h : aK TE lo x R w vs vo s) (hl : s.st.length ≤ 100) :
  Calls Tryz.prog 221 #[.pointer (some ⟨R, 0, none⟩), .int .i64 n] w fun e w' => e = .returned (.tuple #[]) ∧ MR TE lo x R w vs vo w' ⟨s.fu, n :: s.st, s.out⟩ := by
 obtain ⟨i0, hi, hz0, hz1, hz2⟩ := info_parts Tryz.info2E
 obtain ⟨⟨c0, c1, c2, c3, c4, c5⟩, z3, z4, z5⟩ := h.blk.cells
 have HM := af h
 have hRl := h.blk.lt
 have hlo := h.lw
 have hM2 := h.alloc (.cells #[.int .i64 n] 2)
 have ho2 := hM2.st
 have HM2 := af hM2
 obtain ⟨a, cap, rfl⟩ := bz h.st
 clear h hM2
 go_enter Tryz.func221, Tryz.ntmps221
 go_wp2_with (at_builtin; refine wpList_append_own_at _ rfl _ _ 125 rfl lo 2 i0 _ 1 8 Tryz.underlying125 hi hz0 hz1 hz2 rfl (by decide) (.slice a s.st.length cap) s.st.length (nums s.st) rfl ho2 ⟨w.heap.size, 0, none⟩ 1 1 [.int .i64 n] rfl rfl (cell_one_new _ _ _) (bR _) (by unfold maxLen; omega) (by omega) (by simp; omega) ?_)
 intro v2 w2 hown2 hgrow2 hnil2 hat2
 obtain ⟨g2, cap2, rfl⟩ := bu hown2
 have hr := HM2.out.row4 (l := n :: s.st) (by rw [oB]; exact hown2) hgrow2 (by simpa using hat2)
 have hb2 : du TE w2 R x s.fu (.slice a s.st.length cap) vo := HM2.out.blk.keep (hgrow2.block R (by simp; omega) (cH HM2.out.st HM2.out.blk HM2.out.ty.1))
 obtain ⟨⟨_, _, _, _, d4, _⟩, _, y4, _⟩ := hb2.cells
 have HR : Hid (MR TE lo x R w (.slice a s.st.length cap) vo (w2.setCell ⟨R, 4, none⟩ (.slice (some ⟨g2, 0, none⟩) (s.st.length + 1) cap2)) ⟨s.fu, n :: s.st, s.out⟩) := ⟨_, _, hr.1, ((Fr.refl _ _ _ _).alloc _).trans hr.2⟩
 clear hown2 hgrow2 hnil2 hat2 ho2 hr
 go_wp2
 go_end0
 exact ⟨rfl, HR.out⟩
theorem cF {lo : Nat} {x : Rc} {R : Nat} {w : World} {vs vo : Value} {s : St} {a : Int} {r : List Int} (h : aK TE lo x R w vs vo s) (hs : s.st = a :: r) :
  Calls Tryz.prog 223 #[.pointer (some ⟨R, 0, none⟩)] w fun e w' => e = .returned (.int .i64 a) ∧ MR TE lo x R w vs vo w' ⟨s.fu, r, s.out⟩ := by
 obtain ⟨g, cap, rfl, ⟨hcap, hcm⟩, hc, hm⟩ := h.last hs
 obtain ⟨⟨c0, c1, c2, c3, c4, c5⟩, z3, z4, z5⟩ := h.blk.cells
 have HR : Hid (MR TE lo x R w (.slice (some ⟨g, 0, none⟩) (r.length + 1) cap) vo (w.setCell ⟨R, 4, none⟩ (.slice (some ⟨g, 0, none⟩) r.length cap)) ⟨s.fu, r, s.out⟩) := ⟨_, _, hm⟩
 obtain ⟨n, hn⟩ : ∃ n, r.length = n := ⟨_, rfl⟩
 rw [hn] at hcap hc c4 HR
 clear h hm hs
 rw [hn]
 unfold maxLen at hcm
 clear hn
 go_enter Tryz.func223, Tryz.ntmps223
 go_wp2
 go_ret
 exact ⟨rfl, HR.out⟩
theorem given_any {lo : Nat} {x : Rc} {R : Nat} {w : World} {vs vo : Value} {s : St} (k n : Int) (v : Value) (h : aK TE lo x R w vs vo s) (h1 : 1 ≤ k) (h4 : k ≤ 4) (hx : x.1.2.size ≤ 64) :
  Calls Tryz.prog 222 #[.pointer (some ⟨R, 0, none⟩), .agg #[.int .i64 k, .int .i64 n, v]] w fun e w' => e = .returned (.int .i64 (gv x k n)) ∧ MR TE lo x R w vs vo w' s := by
 have h2 := h.alloc (.cells #[.int .i64 k, .int .i64 n, v] 230)
 have HR : Hid (MR TE lo x R w vs vo (w.alloc (.cells #[.int .i64 k, .int .i64 n, v] 230)) s) := ⟨_, _, h2, (Fr.refl _ _ _ _).alloc _⟩
 obtain ⟨⟨c0, c1, c2, c3, c4, c5⟩, z3, z4, z5⟩ := h2.blk.cells
 have hRl := h.blk.lt
 clear h h2
 obtain ⟨⟨xa, xb⟩, xv⟩ := x
 simp only at c0 c1 c2 hx
 have hk : k = 1 ∨ k = 2 ∨ k = 3 ∨ k = 4 := by omega
 clear h1 h4
 rcases hk with rfl | rfl | rfl | rfl
 ·show Calls _ _ _ _ fun e w' => e = .returned (.int .i64 n) ∧ _
  go_enter Tryz.func222, Tryz.ntmps222
  go_wp2
  go_ret
  exact ⟨rfl, HR.out⟩
 ·show Calls _ _ _ _ fun e w' => e = .returned (.int .i64 xa) ∧ _
  go_enter Tryz.func222, Tryz.ntmps222
  go_wp2
  go_ret
  exact ⟨rfl, HR.out⟩
 ·show Calls _ _ _ _ fun e w' => e = .returned (.int .i64 (xb.size : Int)) ∧ _
  go_enter Tryz.func222, Tryz.ntmps222
  go_wp2
  go_ret
  exact ⟨rfl, HR.out⟩
 ·show Calls _ _ _ _ fun e w' => e = .returned (.int .i64 xv) ∧ _
  go_enter Tryz.func222, Tryz.ntmps222
  go_wp2
  go_ret
  exact ⟨rfl, HR.out⟩
theorem MR.step {T : TypeId} {lo : Nat} {x : Rc} {R : Nat} {w w1 w2 : World} {vs vo vs1 vo1 : Value} {s2 : St} (h : Fr R w vs vo w1 vs1 vo1) (g : MR T lo x R w1 vs1 vo1 w2 s2) : MR T lo x R w vs vo w2 s2 := by
 obtain ⟨vs2, vo2, h1, h2⟩ := g
 exact ⟨vs2, vo2, h1, h.trans h2⟩
theorem move_25 {lo : Nat} {x : Rc} {R : Nat} {w : World} {vs vo : Value} {s : St} {a : Int} {r : List Int} (h : aK TE lo x R w vs vo s) (hs : s.st = a :: r) (hl : s.st.length ≤ 50) :
  Calls Tryz.prog 226 #[.pointer (some ⟨R, 0, none⟩), .int .i64 25] w fun e w' => e = .returned (.tuple #[]) ∧ MR TE lo x R w vs vo w' ⟨s.fu, a :: a :: r, s.out⟩ := by
 have Ht := af (cF h hs)
 have hrl : r.length ≤ 50 := by rw [hs] at hl; simp at hl; omega
 clear h hs hl
 go_enter Tryz.func226, Tryz.ntmps226
 go_wp2_with fail
 refine Ht.out.mono ?_
 rintro e w1 ⟨rfl, vs1, vo1, hm1, hf1⟩
 have H1 := af (fY a hm1 (by show r.length ≤ 100; omega))
 have HF1 := af hf1
 clear hm1 hf1 Ht
 go_wp2_with fail
 refine H1.out.mono ?_
 rintro e w2 ⟨rfl, vs2, vo2, hm2, hf2⟩
 have H2 := af (fY a hm2 (by show (a :: r).length ≤ 100; simp; omega))
 have HF2 := af (HF1.out.trans hf2)
 clear hm2 hf2 H1
 go_wp2_with fail
 refine H2.out.mono ?_
 rintro e w3 ⟨rfl, hm3⟩
 have HR := af (MR.step HF2.out hm3)
 clear hm3
 go_wp2
 go_end0
 exact ⟨rfl, HR.out⟩
theorem move_26 {lo : Nat} {x : Rc} {R : Nat} {w : World} {vs vo : Value} {s : St} {a b : Int} {r : List Int} (h : aK TE lo x R w vs vo s) (hs : s.st = a :: b :: r) (hl : s.st.length ≤ 50) :
  Calls Tryz.prog 226 #[.pointer (some ⟨R, 0, none⟩), .int .i64 26] w fun e w' => e = .returned (.tuple #[]) ∧ MR TE lo x R w vs vo w' ⟨s.fu, b :: a :: r, s.out⟩ := by
 have Ht := af (cF h hs)
 have hrl : r.length ≤ 50 := by rw [hs] at hl; simp at hl; omega
 clear h hs hl
 go_enter Tryz.func226, Tryz.ntmps226
 go_wp2_with fail
 refine Ht.out.mono ?_
 rintro e w1 ⟨rfl, vs1, vo1, hm1, hf1⟩
 have H1 := af (cF hm1 rfl)
 have HF1 := af hf1
 clear hm1 hf1 Ht
 go_wp2_with fail
 refine H1.out.mono ?_
 rintro e w2 ⟨rfl, vs2, vo2, hm2, hf2⟩
 have H2 := af (fY a hm2 (by show r.length ≤ 100; omega))
 have HF2 := af (HF1.out.trans hf2)
 clear hm2 hf2 H1
 go_wp2_with fail
 refine H2.out.mono ?_
 rintro e w3 ⟨rfl, vs3, vo3, hm3, hf3⟩
 have H3 := af (fY b hm3 (by show (a :: r).length ≤ 100; simp; omega))
 have HF3 := af (HF2.out.trans hf3)
 clear hm3 hf3 H2
 go_wp2_with fail
 refine H3.out.mono ?_
 rintro e w4 ⟨rfl, hm4⟩
 have HR := af (MR.step HF3.out hm4)
 clear hm4
 go_wp2
 go_end0
 exact ⟨rfl, HR.out⟩
theorem move_27 {lo : Nat} {x : Rc} {R : Nat} {w : World} {vs vo : Value} {s : St} {a : Int} {r : List Int} (h : aK TE lo x R w vs vo s) (hs : s.st = a :: r) :
  Calls Tryz.prog 226 #[.pointer (some ⟨R, 0, none⟩), .int .i64 27] w fun e w' => e = .returned (.tuple #[]) ∧ MR TE lo x R w vs vo w' ⟨s.fu, r, s.out⟩ := by
 have Ht := af (cF h hs)
 clear h hs
 go_enter Tryz.func226, Tryz.ntmps226
 go_wp2_with fail
 refine Ht.out.mono ?_
 rintro e w1 ⟨rfl, hm1⟩
 have HR := af hm1
 clear hm1
 go_wp2
 go_end0
 exact ⟨rfl, HR.out⟩
def EmR (T : TypeId) (lo : Nat) (x : Rc) (R : Nat) (w : World) (vs vo : Value) (s : St) (a b : Int) (r : List Int) (e : Ending) (w' : World) : Prop :=
 (s.out.length = 256 ∧ e = .returned (.int .i64 2) ∧ Below lo w w') ∨ (s.out.length ≠ 256 ∧ e = .returned (.int .i64 0) ∧ MR T lo x R w vs vo w' ⟨s.fu, r, s.out ++ [((b, x.1.2), a)]⟩)
theorem io {T : TypeId} {lo : Nat} {x : Rc} {R : Nat} {w w3 : World} {vs vo : Value} {fu : Nat} {l : List Int} {out : List Rc} {a b : Int} {gg cap2 : Nat} (h : aK T lo x R w vs vo ⟨fu, l, out⟩)
  (hown : w3.ownsRow lo 155 3 (.slice (some ⟨gg, 0, none⟩) (out.length + 1) cap2) (out.length + 1) (aP out ++ [.int .i64 b, .string x.1.2, .int .i64 a]))
  (hg : (w.alloc (.cells #[.int .i64 b, .string x.1.2, .int .i64 a] 155)).grownBy w3 vo.ownBlock) (hat : vo.ownBlock = some gg ∨ gg = (w.alloc (.cells #[.int .i64 b, .string x.1.2, .int .i64 a] 155)).heap.size) :
  MR T lo x R w vs vo (w3.setCell ⟨R, 5, none⟩ (.slice (some ⟨gg, 0, none⟩) (out.length + 1) cap2)) ⟨fu, l, out ++ [((b, x.1.2), a)]⟩ := by
 have h2 := h.alloc (.cells #[.int .i64 b, .string x.1.2, .int .i64 a] 155)
 have hr := h2.row5 (l := out ++ [((b, x.1.2), a)]) (v2 := .slice (some ⟨gg, 0, none⟩) (out.length + 1) cap2) (bq.snoc hown rfl) hg (by
  rcases hat with e | e
  ·exact .inl e.symm
  ·exact .inr (by rw [e]; rfl))
 exact ⟨_, _, hr.1, ((Fr.refl _ _ _ _).alloc _).trans hr.2⟩
theorem emit_any {lo : Nat} {x : Rc} {R : Nat} {w : World} {vs vo : Value} {s : St} {a b : Int} {r : List Int} (h : aK TE lo x R w vs vo s) (hs : s.st = a :: b :: r) (ho : s.out.length ≤ 256) :
  Calls Tryz.prog 228 #[.pointer (some ⟨R, 0, none⟩)] w fun e w' => EmR TE lo x R w vs vo s a b r e w' := by
 obtain ⟨i0, hi, hz0, hz1, hz2⟩ := info_parts Tryz.infoRec
 obtain ⟨⟨c0, c1, c2, c3, c4, c5⟩, z3, z4, z5⟩ := h.blk.cells
 obtain ⟨ao, capo, hvo⟩ := bz h.out
 have Ht := af (cF h hs)
 by_cases h256 : s.out.length = 256
 ·have HC : Hid (EmR TE lo x R w vs vo s a b r (.returned (.int .i64 2)) w) := .inl ⟨h256, rfl, Below.refl _ _⟩
  rw [h256] at hvo
  subst hvo
  clear h Ht hs ho h256
  go_enter Tryz.func228, Tryz.ntmps228
  go_wp2
  go_ret
  exact HC.out
 ·have hne : ((s.out.length : Int) == 256) = false := beq_eq_false_iff_ne.2 (by omega)
  have HN := af h256
  subst hvo
  clear h hs h256
  go_enter Tryz.func228, Tryz.ntmps228
  go_wp2_with fail
  refine Ht.out.mono ?_
  rintro e w1 ⟨rfl, vs1, vo1, hm1, hf1⟩
  have H1 := af (cF hm1 rfl)
  have HF1 := af hf1
  clear hm1 hf1 Ht c0 c1 c2 c3 c4 c5 z3 z4 z5
  go_wp2_with fail
  refine H1.out.mono ?_
  rintro e w2 ⟨rfl, vs2, vo2, hm2, hf2⟩
  have HF2 := af (HF1.out.trans hf2)
  obtain ⟨⟨c0, c1, c2, c3, c4, c5⟩, z3, z4, z5⟩ := hm2.blk.cells
  have HM2 := af hm2
  obtain ⟨ao2, capo2, hvo2⟩ := bz hm2.out
  have hvo2' : vo2 = .slice ao2 s.out.length capo2 := hvo2
  subst hvo2'
  have ho2 : w2.ownsRow lo 155 3 (.slice ao2 s.out.length capo2) s.out.length (aP s.out) := hm2.out
  have hRl := hm2.blk.lt
  have hlo := hm2.lw
  have h63 : s.out.length + 1 ≤ maxLen := by unfold maxLen; omega
  have hby : (s.out.length + 1) * 32 ≤ 140737488355328 := by omega
  have hbs : lo ≤ w2.heap.size + 1 := by omega
  clear hm2 hf2 hvo2 H1
  go_wp2
  refine wp_region_any (by kernel_rfl) ?_
  change wpAny _ _ _ _ _ _ _ (World.drew _)
  refine wpAny_take (i := 0) (v := ?v0x1) rfl (by kernel_rfl) (by kernel_rfl) (by kernel_rfl) (fun _ _ _ h => h) (Or.inl ⟨by rfl, ?h0x1⟩) ?r0x1
  case h0x1 => (intro W; go_simp; try with_reducible rfl)
  refine wpAny_take (i := 1) (v := ?v1x2) rfl (by kernel_rfl) (by kernel_rfl) (by kernel_rfl) (fun _ _ _ h => h) (Or.inl ⟨by rfl, ?h1x2⟩) ?r1x2
  case h1x2 => (intro W; go_simp; try with_reducible rfl)
  refine wpAny_take (i := 2) (v := ?v2x3) rfl (by kernel_rfl) (by kernel_rfl) (by kernel_rfl) (fun _ _ _ h => h) (Or.inl ⟨by rfl, ?h2x3⟩) ?r2x3
  case h2x3 => (intro W; go_simp; try with_reducible rfl)
  refine wpAny_take (i := 3) (v := ?v3x4) rfl (by kernel_rfl) (by kernel_rfl) (by kernel_rfl) (fun _ _ _ h => h) (Or.inl ⟨by rfl, ?h3x4⟩) ?r3x4
  case h3x4 => (intro W; go_simp; try with_reducible rfl)
  refine wpAny_take (i := 5) (v := ?v5x5) rfl (by kernel_rfl) (by kernel_rfl) (by kernel_rfl) (fun _ _ _ h => h) (Or.inl ⟨by rfl, ?h5x5⟩) ?r5x5
  case h5x5 => (intro W; go_simp; try with_reducible rfl)
  refine wpAny_take (i := 6) (v := ?v6x6) rfl (by kernel_rfl) (by kernel_rfl) (by kernel_rfl) (fun _ _ _ h => h) (Or.inl ⟨by rfl, ?h6x6⟩) ?r6x6
  case h6x6 => (intro W; go_simp; try with_reducible rfl)
  refine wpAny_take (i := 7) (v := ?v7x7) rfl (by kernel_rfl) (by kernel_rfl) (by kernel_rfl) (fun _ _ _ h => h) (Or.inl ⟨by rfl, ?h7x7⟩) ?r7x7
  case h7x7 => (intro W; go_simp; try with_reducible rfl)
  refine wpAny_take (i := 8) (v := ?v8x8) rfl (by kernel_rfl) (by kernel_rfl) (by kernel_rfl) (fun _ _ _ h => h) (Or.inl ⟨by rfl, ?h8x8⟩) ?r8x8
  case h8x8 => (intro W; go_simp; try with_reducible rfl)
  refine wpAny_take (i := 9) (v := ?v9x9) rfl (by kernel_rfl) (by kernel_rfl) (by kernel_rfl) (fun _ _ _ h => h) (Or.inl ⟨by rfl, ?h9x9⟩) ?r9x9
  case h9x9 => (intro W; go_simp; try with_reducible rfl)
  refine wpAny_take (i := 10) (v := ?v10x10) rfl (by kernel_rfl) (by kernel_rfl) (by kernel_rfl) (fun _ _ _ h => h) (Or.inl ⟨by rfl, ?h10x10⟩) ?r10x10
  case h10x10 => (intro W; go_simp; try with_reducible rfl)
  refine wpAny_take (i := 13) (v := ?v13x11) rfl (by kernel_rfl) (by kernel_rfl) (by kernel_rfl) (fun _ _ _ h => h) (Or.inl ⟨by rfl, ?h13x11⟩) ?r13x11
  case h13x11 => (intro W; go_simp; try with_reducible rfl)
  refine wpAny_ready (rs := [4, 11]) (by kernel_rfl) (by simp) ?_
  refine AllReady.cons rfl (fun K hK => ?_) (AllReady.cons rfl (fun K hK => ?_) AllReady.nil)
  ·go_simp
   refine hK _ _ ?_
   clear hK K
   refine wpAny_ready (rs := [11]) (by kernel_rfl) (by simp) ?_
   refine AllReady.cons rfl (fun K hK => ?_) AllReady.nil
   go_simp
   refine hK _ _ ?_
   clear hK K
   refine wpAny_take (i := 12) (v := ?v12x12) rfl (by kernel_rfl) (by kernel_rfl) (by kernel_rfl) (fun _ _ _ h => h) (Or.inl ⟨by rfl, ?h12x12⟩) ?r12x12
   case h12x12 => (intro W; go_simp; try with_reducible rfl)
   refine wpAny_take (i := 14) (v := ?v14x13) rfl (by kernel_rfl) (by kernel_rfl) (by kernel_rfl) (fun _ _ _ h => h) (Or.inl ⟨by rfl, ?h14x13⟩) ?r14x13
   case h14x13 => (intro W; go_simp; try with_reducible rfl)
   refine wpAny_ready (rs := [15]) (by kernel_rfl) (by simp) ?_
   refine AllReady.cons rfl (fun K hK => ?_) AllReady.nil
   go_simp
   refine hK _ _ ?_
   clear hK K
   refine wpAny_ready (rs := [16]) (by kernel_rfl) (by simp) ?_
   refine AllReady.cons rfl (fun K hK => ?_) AllReady.nil
   refine step_append_lies _ (by rfl) _ _ _ (by rfl) lo 155 i0 _ 3 32 Tryz.underlying97 hi hz0 hz1 hz2 rfl (by decide) _ _ _ (by rfl) (ho2.alloc _) _ 1 1 [.int .i64 b, .string x.1.2, .int .i64 a] (by rfl) (by rfl) (lk (new3 _ _ _ _ _)) (dA _ _ _) (by decide) h63 hby (by simpa using hbs) _ rfl ?_
   intro gg cap2 w3 hown3 hgrow3 hat3 hlt3
   obtain ⟨d5, y5, d1⟩ := (HM2.out.drew 1).after5 hgrow3
   have HR := af (io (HM2.out.drew 1) hown3 hgrow3 hat3)
   clear hown3 hgrow3 hat3 hlt3
   refine hK _ _ ?_
   clear hK K
   refine wpAny_take (i := 17) (v := ?v17x14) rfl (by kernel_rfl) (by kernel_rfl) (by kernel_rfl) (fun _ _ _ h => h) (Or.inl ⟨by rfl, ?h17x14⟩) ?r17x14
   case h17x14 => (intro W; go_simp; try with_reducible rfl)
   refine wpAny_take (i := 18) (v := ?v18x15) rfl (by kernel_rfl) (by kernel_rfl) (by kernel_rfl) (fun _ _ _ h => h) (Or.inl ⟨by rfl, ?h18x15⟩) ?r18x15
   case h18x15 => (intro W; go_simp; try with_reducible rfl)
   refine wpAny_ready (rs := [19]) (by kernel_rfl) (by simp) ?_
   refine AllReady.cons rfl (fun K hK => ?_) AllReady.nil
   go_simp
   refine hK _ _ ?_
   clear hK K
   refine wpAny_done (by kernel_rfl) ?_ _
   go_wp2
   go_ret
   exact .inr ⟨HN.out, rfl, MR.step (HF2.out.drew 1) HR.out⟩
  ·go_simp
   refine hK _ _ ?_
   clear hK K
   refine wpAny_take (i := 12) (v := ?v12x20) rfl (by kernel_rfl) (by kernel_rfl) (by kernel_rfl) (fun _ _ _ h => h) (Or.inl ⟨by rfl, ?h12x20⟩) ?r12x20
   case h12x20 => (intro W; go_simp; try with_reducible rfl)
   refine wpAny_take (i := 14) (v := ?v14x21) rfl (by kernel_rfl) (by kernel_rfl) (by kernel_rfl) (fun _ _ _ h => h) (Or.inl ⟨by rfl, ?h14x21⟩) ?r14x21
   case h14x21 => (intro W; go_simp; try with_reducible rfl)
   refine wpAny_ready (rs := [4, 15]) (by kernel_rfl) (by simp) ?_
   refine AllReady.cons rfl (fun K hK => ?_) (AllReady.cons rfl (fun K hK => ?_) AllReady.nil)
   ·go_simp
    refine hK _ _ ?_
    clear hK K
    refine wpAny_ready (rs := [15]) (by kernel_rfl) (by simp) ?_
    refine AllReady.cons rfl (fun K hK => ?_) AllReady.nil
    go_simp
    refine hK _ _ ?_
    clear hK K
    refine wpAny_ready (rs := [16]) (by kernel_rfl) (by simp) ?_
    refine AllReady.cons rfl (fun K hK => ?_) AllReady.nil
    refine step_append_lies _ (by rfl) _ _ _ (by rfl) lo 155 i0 _ 3 32 Tryz.underlying97 hi hz0 hz1 hz2 rfl (by decide) _ _ _ (by rfl) (ho2.alloc _) _ 1 1 [.int .i64 b, .string x.1.2, .int .i64 a] (by rfl) (by rfl) (lk (new3 _ _ _ _ _)) (dA _ _ _) (by decide) h63 hby (by simpa using hbs) _ rfl ?_
    intro gg cap2 w3 hown3 hgrow3 hat3 hlt3
    obtain ⟨d5, y5, d1⟩ := (HM2.out.drew 1).after5 hgrow3
    have HR := af (io (HM2.out.drew 1) hown3 hgrow3 hat3)
    clear hown3 hgrow3 hat3 hlt3
    refine hK _ _ ?_
    clear hK K
    refine wpAny_take (i := 17) (v := ?v17x16) rfl (by kernel_rfl) (by kernel_rfl) (by kernel_rfl) (fun _ _ _ h => h) (Or.inl ⟨by rfl, ?h17x16⟩) ?r17x16
    case h17x16 => (intro W; go_simp; try with_reducible rfl)
    refine wpAny_take (i := 18) (v := ?v18x17) rfl (by kernel_rfl) (by kernel_rfl) (by kernel_rfl) (fun _ _ _ h => h) (Or.inl ⟨by rfl, ?h18x17⟩) ?r18x17
    case h18x17 => (intro W; go_simp; try with_reducible rfl)
    refine wpAny_ready (rs := [19]) (by kernel_rfl) (by simp) ?_
    refine AllReady.cons rfl (fun K hK => ?_) AllReady.nil
    go_simp
    refine hK _ _ ?_
    clear hK K
    refine wpAny_done (by kernel_rfl) ?_ _
    go_wp2
    go_ret
    exact .inr ⟨HN.out, rfl, MR.step (HF2.out.drew 1) HR.out⟩
   ·go_simp
    refine hK _ _ ?_
    clear hK K
    refine wpAny_ready (rs := [4]) (by kernel_rfl) (by simp) ?_
    refine AllReady.cons rfl (fun K hK => ?_) AllReady.nil
    go_simp
    refine hK _ _ ?_
    clear hK K
    refine wpAny_ready (rs := [16]) (by kernel_rfl) (by simp) ?_
    refine AllReady.cons rfl (fun K hK => ?_) AllReady.nil
    refine step_append_lies _ (by rfl) _ _ _ (by rfl) lo 155 i0 _ 3 32 Tryz.underlying97 hi hz0 hz1 hz2 rfl (by decide) _ _ _ (by rfl) (ho2.alloc _) _ 1 1 [.int .i64 b, .string x.1.2, .int .i64 a] (by rfl) (by rfl) (lk (new3 _ _ _ _ _)) (dA _ _ _) (by decide) h63 hby (by simpa using hbs) _ rfl ?_
    intro gg cap2 w3 hown3 hgrow3 hat3 hlt3
    obtain ⟨d5, y5, d1⟩ := (HM2.out.drew 1).after5 hgrow3
    have HR := af (io (HM2.out.drew 1) hown3 hgrow3 hat3)
    clear hown3 hgrow3 hat3 hlt3
    refine hK _ _ ?_
    clear hK K
    refine wpAny_take (i := 17) (v := ?v17x18) rfl (by kernel_rfl) (by kernel_rfl) (by kernel_rfl) (fun _ _ _ h => h) (Or.inl ⟨by rfl, ?h17x18⟩) ?r17x18
    case h17x18 => (intro W; go_simp; try with_reducible rfl)
    refine wpAny_take (i := 18) (v := ?v18x19) rfl (by kernel_rfl) (by kernel_rfl) (by kernel_rfl) (fun _ _ _ h => h) (Or.inl ⟨by rfl, ?h18x19⟩) ?r18x19
    case h18x19 => (intro W; go_simp; try with_reducible rfl)
    refine wpAny_ready (rs := [19]) (by kernel_rfl) (by simp) ?_
    refine AllReady.cons rfl (fun K hK => ?_) AllReady.nil
    go_simp
    refine hK _ _ ?_
    clear hK K
    refine wpAny_done (by kernel_rfl) ?_ _
    go_wp2
    go_ret
    exact .inr ⟨HN.out, rfl, MR.step (HF2.out.drew 1) HR.out⟩
def bC (T : TypeId) (lo : Nat) (x : Rc) (R : Nat) (w : World) (vs vo : Value) (q : Re) (e : Ending) (w' : World) : Prop :=
 (∃ c, q = .err c ∧ c ≠ 0 ∧ e = .returned (.int .i64 c) ∧ Below lo w w') ∨ (∃ s', q = .ok s' ∧ e = .returned (.int .i64 0) ∧ MR T lo x R w vs vo w' s')
theorem bC.step {T : TypeId} {lo : Nat} {x : Rc} {R : Nat} {w w1 w2 : World} {vs vo vs1 vo1 : Value} {s : St} {q : Re} {e : Ending} (hm : aK T lo x R w vs vo s) (h : Fr R w vs vo w1 vs1 vo1) (g : bC T lo x R w1 vs1 vo1 q e w2) : bC T lo x R w vs vo q e w2 := by
 rcases g with ⟨c, h1, h2, h3, h4⟩ | ⟨s', h1, h2, h3⟩
 ·exact .inl ⟨c, h1, h2, h3, (hm.below h).trans h4⟩
 ·exact .inr ⟨s', h1, h2, MR.step h h3⟩
def ListE (B : Nat) (f : Fo) : Prop := ∀ (v : Value) (w : World) (lo : Nat) (x : Rc) (R : Nat) (vs vo : Value) (s : St) (d : Nat) (h fl m l p : Int), FS (QB B) w v f → f.len ≤ 3518437208780 → jo f → eZ f d = true →
 nd f h fl m = some (l, p) → 0 ≤ fl → fl ≤ h → h ≤ m → m ≤ 16 → aK TE lo x R w vs vo s → Ok h s → s.fu ≤ 2000 → B ≤ lo → x.1.2.size ≤ 64 →
 Calls Tryz.prog 160 #[.pointer (some ⟨R, 0, none⟩), v] w fun e w' => bC TE lo x R w vs vo (ev x f s) e w'
structure RK (g : St → Re) (T : TypeId) (lo : Nat) (x : Rc) (R : Nat) (w : World) (vs vo : Value) (b N : Nat) (k n : Int) (v : Value) (h : Int) (s : St) (i : Nat) (wr : World) : Prop where
 mr : ∃ vs' vo' s', (aK T lo x R wr vs' vo' s' ∧ Fr R w vs vo wr vs' vo') ∧ Ok h s' ∧ i + s'.fu ≤ s.fu ∧ iA g N s = iA g (N - i) s'
 box : aA wr b k n v
theorem block_anyE (B : Nat) (b : Fo) (IH : ListE B b) (k n : Int) (v : Value) (w : World) (lo : Nat) (x : Rc) (R : Nat) (vs vo : Value) (s : St) (d : Nat) (a : Int) (r : List Int) (m p : Int)
  (hf : FS (QB B) w v b) (hl : b.len ≤ 3518437208780) (hwf : jo b) (hok : eZ b d = true) (hs : s.st = a :: r) (hnd : nd b (r.length : Int) (r.length : Int) m = some ((r.length : Int), p)) (h1 : (r.length : Int) ≤ m) (h2 : m ≤ 16)
  (hM : aK TE lo x R w vs vo s) (hout : s.out.length ≤ 256) (hfu : s.fu ≤ 2000) (hB : B ≤ lo) (hx : x.1.2.size ≤ 64) (hk : k = 28 ∨ k = 29) :
  Calls Tryz.prog 227 #[.pointer (some ⟨R, 0, none⟩), .agg #[.int .i64 k, .int .i64 n, v]] w fun e w' => bC TE lo x R w vs vo (iA (ev x b) (often k a) ⟨s.fu, r, s.out⟩) e w' := by
 have hM0 := hM.alloc (.cells #[.int .i64 k, .int .i64 n, v] 230)
 have hbx0 := aA.new w k n v
 have Ht := af (cF hM0 hs)
 have HM0 := af hM0
 have HM := af hM
 have HX0 := af hbx0
 have hF0 : Fr R w vs vo (w.alloc (.cells #[.int .i64 k, .int .i64 n, v] 230)) vs vo := (Fr.refl _ _ _ _).alloc _
 have HF0 := af hF0
 have HFS := af hf
 have Hwf := af hwf
 have HIH := af IH
 have HND := af hnd
 obtain ⟨av, cap, rfl⟩ := hf.val
 have hbl := hM.blk.lt
 have hlw := hM.lw
 clear hM hM0 hbx0 hf hF0 hwf IH hnd
 obtain ⟨N, hN⟩ : ∃ N, often k a = N := ⟨_, rfl⟩
 rw [hN]
 have HNN := af hN
 clear hN
 by_cases hb0 : b.len = 0
 ·have hbn : b = .nil := Fo.len_nil hb0
  subst hbn
  clear hb0
  simp only [Fo.len] at *
  rw [rep_nil]
  go_enter Tryz.func227, Tryz.ntmps227
  go_wp2_with fail
  refine Ht.out.mono ?_
  rintro e w1 ⟨rfl, vs1, vo1, hm1, hf1⟩
  obtain ⟨b0, b1, b2⟩ := (HM0.out.boxO hf1 HX0.out).cells
  have HR : Hid (MR TE lo x R w vs vo w1 ⟨s.fu, r, s.out⟩) := ⟨_, _, hm1, HF0.out.trans hf1⟩
  clear hm1 hf1
  go_wp2
  go_ret
  exact .inr ⟨_, rfl, rfl, HR.out⟩
 ·have hbe : ((b.len : Int) == 0) = false := beq_eq_false_iff_ne.2 (by omega)
  have hbp : 1 ≤ b.len := by omega
  clear hb0
  rcases hk with rfl | rfl
  ·by_cases ha : a = 0
   ·subst ha
    have hz : N = 0 := by rw [← HNN.out]; rfl
    have ht0 : tru false = 0 := rfl
    clear HNN
    go_enter Tryz.func227, Tryz.ntmps227
    go_wp2_with fail
    refine Ht.out.mono ?_
    rintro e w1 ⟨rfl, vs1, vo1, hm1, hf1⟩
    have hbx1 := HM0.out.boxO hf1 HX0.out
    obtain ⟨b0, b1, b2⟩ := hbx1.cells
    have HR0 : Hid (RK (ev x b) TE lo x R w vs vo w.heap.size N 28 n (.slice av b.len cap) (r.length : Int) ⟨s.fu, r, s.out⟩ 0 w1) := ⟨⟨_, _, _, ⟨hm1, HF0.out.trans hf1⟩, ⟨rfl, hout⟩, by simp, rfl⟩, hbx1⟩
    clear hm1 hf1 hbx1 Ht
    go_wp2_with (go_at_call 249; refine (jS _ _).mono ?_; rintro e w' ⟨rfl, rfl⟩)
    clear b0 b1 b2
    go_loopw [6, 20] (fun _ i wr => ∃ j : Nat, j ≤ N ∧ j ≤ 2000 ∧ i = .int .i64 j ∧ RK (ev x b) TE lo x R w vs vo w.heap.size N 28 n (.slice av b.len cap) (r.length : Int) ⟨s.fu, r, s.out⟩ j wr) (fun _ i _ => N - (intOf i).toNat)
    case atStart => exact ⟨0, by omega, by omega, rfl, HR0.out⟩
    case round =>
     obtain ⟨j, hj, hj2, rfl, hRK⟩ := hrel
     obtain ⟨vs2, vo2, s2, ⟨hm2, hf2⟩, hok2, hju, hrep⟩ := hRK.mr
     obtain ⟨b0, b1, b2⟩ := hRK.box.cells
     have HX2 := af hRK.box
     have HM2 := af hm2
     have HF2 := af hf2
     have HOK := af hok2
     have HREP := af hrep
     simp only at hju
     clear hRK hok2 hrep
     by_cases hlt : (j : Int) < 0
     ·exfalso; omega
     ·have hlt' : 0 ≤ (j : Int) := by omega
      have HE : Hid (bC TE lo x R w vs vo (iA (ev x b) N ⟨s.fu, r, s.out⟩) (.returned (.int .i64 0)) wr) := .inr ⟨s2, by rw [HREP.out, show N - j = 0 by omega]; rfl, rfl, _, _, hm2, hf2⟩
      clear hm2 hf2 b0 b1 b2 hlt
      go_wp2
      go_ret
      exact HE.out
   ·have hz : N = 1 := by rw [← HNN.out]; unfold often; rw [if_pos rfl, if_neg ha]
    have hne : (a != 0) = true := by simpa using ha
    have ht1 : tru true = 1 := rfl
    clear HNN
    go_enter Tryz.func227, Tryz.ntmps227
    go_wp2_with fail
    refine Ht.out.mono ?_
    rintro e w1 ⟨rfl, vs1, vo1, hm1, hf1⟩
    have hbx1 := HM0.out.boxO hf1 HX0.out
    obtain ⟨b0, b1, b2⟩ := hbx1.cells
    have HR0 : Hid (RK (ev x b) TE lo x R w vs vo w.heap.size N 28 n (.slice av b.len cap) (r.length : Int) ⟨s.fu, r, s.out⟩ 0 w1) := ⟨⟨_, _, _, ⟨hm1, HF0.out.trans hf1⟩, ⟨rfl, hout⟩, by simp, rfl⟩, hbx1⟩
    clear hm1 hf1 hbx1 Ht
    go_wp2_with (go_at_call 249; refine (jS _ _).mono ?_; rintro e w' ⟨rfl, rfl⟩)
    clear b0 b1 b2
    go_loopw [6, 20] (fun _ i wr => ∃ j : Nat, j ≤ N ∧ j ≤ 2000 ∧ i = .int .i64 j ∧ RK (ev x b) TE lo x R w vs vo w.heap.size N 28 n (.slice av b.len cap) (r.length : Int) ⟨s.fu, r, s.out⟩ j wr) (fun _ i _ => N - (intOf i).toNat)
    case atStart => exact ⟨0, by omega, by omega, rfl, HR0.out⟩
    case round =>
     obtain ⟨j, hj, hj2, rfl, hRK⟩ := hrel
     obtain ⟨vs2, vo2, s2, ⟨hm2, hf2⟩, hok2, hju, hrep⟩ := hRK.mr
     obtain ⟨b0, b1, b2⟩ := hRK.box.cells
     have HX2 := af hRK.box
     have HM2 := af hm2
     have HF2 := af hf2
     have HOK := af hok2
     have HREP := af hrep
     simp only at hju
     clear hRK hok2 hrep
     by_cases hlt : (j : Int) < 1
     ·have hfs2 := HFS.out.belowB ((HM.out.below hf2).mono hB)
      have hc := HIH.out _ wr lo x R vs2 vo2 s2 d _ _ m _ _ hfs2 hl Hwf.out hok HND.out (by omega) (by omega) h1 h2 hm2 HOK.out (by omega) hB hx
      have HC := af hc
      clear hm2 hf2 hc hfs2
      go_wp2_with fail
      refine HC.out.mono ?_
      rintro e w3 hr3
      rcases hr3 with ⟨c, hq, hc0, rfl, hb3⟩ | ⟨s3, hq, rfl, vs3, vo3, hm3, hf3⟩
      ·have HE : Hid (bC TE lo x R w vs vo (iA (ev x b) N ⟨s.fu, r, s.out⟩) (.returned (.int .i64 c)) w3) := .inl ⟨c, by rw [HREP.out, show N - j = (N - j - 1) + 1 by omega, lV hq], hc0, rfl, (HM.out.below HF2.out).trans hb3⟩
       have hce : (c == 0) = false := beq_eq_false_iff_ne.2 hc0
       clear hq hc0 hb3 b0 b1 b2
       go_wp2
       go_ret
       exact HE.out
      ·have hk3 := fI x b d _ _ m _ _ s2 s3 hok HND.out (by omega) HOK.out hq
       have HL : Hid (RK (ev x b) TE lo x R w vs vo w.heap.size N 28 n (.slice av b.len cap) (r.length : Int) ⟨s.fu, r, s.out⟩ (j + 1) w3) := ⟨⟨_, _, _, ⟨hm3, HF2.out.trans hf3⟩, hk3.1, by have := hk3.2; simp only; omega, by rw [HREP.out, show N - j = (N - (j + 1)) + 1 by omega, rep_ok hq]⟩, HM2.out.boxO hf3 HX2.out⟩
       have hj3 : j + 1 ≤ N := by omega
       have hj4 : j + 1 ≤ 2000 := by have := hk3.2; omega
       clear hq hm3 hf3 hk3 b0 b1 b2
       go_wp2
       go_roundw
       case rel => exact ⟨j + 1, hj3, hj4, by go_num, HL.out⟩
       case measure => simp [intOf]; omega
     ·have hlt' : 1 ≤ (j : Int) := by omega
      have HE : Hid (bC TE lo x R w vs vo (iA (ev x b) N ⟨s.fu, r, s.out⟩) (.returned (.int .i64 0)) wr) := .inr ⟨s2, by rw [HREP.out, show N - j = 0 by omega]; rfl, rfl, _, _, hm2, hf2⟩
      clear hm2 hf2 b0 b1 b2 hlt
      go_wp2
      go_ret
      exact HE.out
  ·have hz : N = a.toNat := by rw [← HNN.out]; rfl
   clear HNN
   go_enter Tryz.func227, Tryz.ntmps227
   go_wp2_with fail
   refine Ht.out.mono ?_
   rintro e w1 ⟨rfl, vs1, vo1, hm1, hf1⟩
   have hbx1 := HM0.out.boxO hf1 HX0.out
   obtain ⟨b0, b1, b2⟩ := hbx1.cells
   have HR0 : Hid (RK (ev x b) TE lo x R w vs vo w.heap.size N 29 n (.slice av b.len cap) (r.length : Int) ⟨s.fu, r, s.out⟩ 0 w1) := ⟨⟨_, _, _, ⟨hm1, HF0.out.trans hf1⟩, ⟨rfl, hout⟩, by simp, rfl⟩, hbx1⟩
   clear hm1 hf1 hbx1 Ht
   go_wp2
   clear b0 b1 b2
   go_loopw [6, 20] (fun _ i wr => ∃ j : Nat, j ≤ N ∧ j ≤ 2000 ∧ i = .int .i64 j ∧ RK (ev x b) TE lo x R w vs vo w.heap.size N 29 n (.slice av b.len cap) (r.length : Int) ⟨s.fu, r, s.out⟩ j wr) (fun _ i _ => N - (intOf i).toNat)
   case atStart => exact ⟨0, by omega, by omega, rfl, HR0.out⟩
   case round =>
    obtain ⟨j, hj, hj2, rfl, hRK⟩ := hrel
    obtain ⟨vs2, vo2, s2, ⟨hm2, hf2⟩, hok2, hju, hrep⟩ := hRK.mr
    obtain ⟨b0, b1, b2⟩ := hRK.box.cells
    have HX2 := af hRK.box
    have HM2 := af hm2
    have HF2 := af hf2
    have HOK := af hok2
    have HREP := af hrep
    simp only at hju
    clear hRK hok2 hrep
    by_cases hlt : (j : Int) < a
    ·have hfs2 := HFS.out.belowB ((HM.out.below hf2).mono hB)
     have hc := HIH.out _ wr lo x R vs2 vo2 s2 d _ _ m _ _ hfs2 hl Hwf.out hok HND.out (by omega) (by omega) h1 h2 hm2 HOK.out (by omega) hB hx
     have HC := af hc
     clear hm2 hf2 hc hfs2
     go_wp2_with fail
     refine HC.out.mono ?_
     rintro e w3 hr3
     rcases hr3 with ⟨c, hq, hc0, rfl, hb3⟩ | ⟨s3, hq, rfl, vs3, vo3, hm3, hf3⟩
     ·have HE : Hid (bC TE lo x R w vs vo (iA (ev x b) N ⟨s.fu, r, s.out⟩) (.returned (.int .i64 c)) w3) := .inl ⟨c, by rw [HREP.out, show N - j = (N - j - 1) + 1 by omega, lV hq], hc0, rfl, (HM.out.below HF2.out).trans hb3⟩
      have hce : (c == 0) = false := beq_eq_false_iff_ne.2 hc0
      clear hq hc0 hb3 b0 b1 b2
      go_wp2
      go_ret
      exact HE.out
     ·have hk3 := fI x b d _ _ m _ _ s2 s3 hok HND.out (by omega) HOK.out hq
      have HL : Hid (RK (ev x b) TE lo x R w vs vo w.heap.size N 29 n (.slice av b.len cap) (r.length : Int) ⟨s.fu, r, s.out⟩ (j + 1) w3) := ⟨⟨_, _, _, ⟨hm3, HF2.out.trans hf3⟩, hk3.1, by have := hk3.2; simp only; omega, by rw [HREP.out, show N - j = (N - (j + 1)) + 1 by omega, rep_ok hq]⟩, HM2.out.boxO hf3 HX2.out⟩
      have hj3 : j + 1 ≤ N := by omega
      have hj4 : j + 1 ≤ 2000 := by have := hk3.2; omega
      clear hq hm3 hf3 hk3 b0 b1 b2
      go_wp2
      go_roundw
      case rel => exact ⟨j + 1, hj3, hj4, by go_num, HL.out⟩
      case measure => simp [intOf]; omega
    ·have hlt' : a ≤ (j : Int) := by omega
     have HE : Hid (bC TE lo x R w vs vo (iA (ev x b) N ⟨s.fu, r, s.out⟩) (.returned (.int .i64 0)) wr) := .inr ⟨s2, by rw [HREP.out, show N - j = 0 by omega]; rfl, rfl, _, _, hm2, hf2⟩
     clear hm2 hf2 b0 b1 b2 hlt
     go_wp2
     go_ret
     exact HE.out
section
variable {lo : Nat} {x : Rc} {R : Nat} {w : World} {vs vo : Value} {s : St}
theorem stp_1 {k n : Int} {g : St → Re} (h : k ≤ 4) : iX x k n g s = .ok ⟨s.fu, gv x k n :: s.st, s.out⟩ := by unfold iX; rw [if_pos h]
theorem stp_2 {k n a b : Int} {r : List Int} {g : St → Re} (h : 5 ≤ k) (h' : k ≤ 17) (hs : s.st = a :: b :: r) : iX x k n g s = .ok ⟨s.fu, bL k b a :: r, s.out⟩ := by
 unfold iX; rw [if_neg (by omega), if_pos h', hs]; rfl
theorem ln {k n a : Int} {r : List Int} {g : St → Re} (h : 18 ≤ k) (h' : k ≤ 24) (hs : s.st = a :: r) : iX x k n g s = .ok ⟨s.fu, fy k a :: r, s.out⟩ := by
 unfold iX; rw [if_neg (by omega), if_neg (by omega), if_pos h', hs]; rfl
theorem stp_25 {n a : Int} {r : List Int} {g : St → Re} (hs : s.st = a :: r) : iX x 25 n g s = .ok ⟨s.fu, a :: a :: r, s.out⟩ := by unfold iX; rw [hs]; rfl
theorem stp_26 {n a b : Int} {r : List Int} {g : St → Re} (hs : s.st = a :: b :: r) : iX x 26 n g s = .ok ⟨s.fu, b :: a :: r, s.out⟩ := by unfold iX; rw [hs]; rfl
theorem stp_27 {n a : Int} {r : List Int} {g : St → Re} (hs : s.st = a :: r) : iX x 27 n g s = .ok ⟨s.fu, r, s.out⟩ := by unfold iX; rw [hs]; rfl
theorem stp_B {k n a : Int} {r : List Int} {g : St → Re} (h : k = 28 ∨ k = 29) (hs : s.st = a :: r) : iX x k n g s = iA g (often k a) ⟨s.fu, r, s.out⟩ := by
 unfold iX; rw [if_neg (by omega), if_neg (by omega), if_neg (by omega), if_neg (by omega), if_neg (by omega), if_neg (by omega), if_pos (by omega), hs]; rfl
theorem stp_30 {n a b : Int} {r : List Int} {g : St → Re} (hs : s.st = a :: b :: r) : iX x 30 n g s = if s.out.length = 256 then .err 2 else .ok ⟨s.fu, r, s.out ++ [((b, x.1.2), a)]⟩ := by unfold iX; rw [hs]; rfl
theorem kH {l : List Int} (h : 2 ≤ (l.length : Int)) : ∃ a b r, l = a :: b :: r := by
 match l, h with
 | a :: b :: r, _ => exact ⟨a, b, r, rfl⟩
 | [a], h => simp at h
 | [], h => simp at h
theorem gN {l : List Int} (h : 1 ≤ (l.length : Int)) : ∃ a r, l = a :: r := by
 match l, h with
 | a :: r, _ => exact ⟨a, r, rfl⟩
 | [], h => simp at h
theorem do_1 (k n : Int) (a : Option Addr) (c1 c2 : Nat) (h : aK TE lo x R w vs vo s) (h1 : 1 ≤ k) (h4 : k ≤ 4) (hx : x.1.2.size ≤ 64) (hl : s.st.length ≤ 50) :
  Calls Tryz.prog 197 #[.pointer (some ⟨R, 0, none⟩), .agg #[.int .i64 k, .int .i64 n, .slice a c1 c2]] w fun e w' => e = .returned (.int .i64 0) ∧ MR TE lo x R w vs vo w' ⟨s.fu, gv x k n :: s.st, s.out⟩ := by
 have h0 := h.alloc (.cells #[.int .i64 k, .int .i64 n, .slice a c1 c2] 230)
 have Hg := af (given_any k n (.slice a c1 c2) h0 h1 h4 hx)
 have HF : Hid (Fr R w vs vo (w.alloc (.cells #[.int .i64 k, .int .i64 n, .slice a c1 c2] 230)) vs vo) := (Fr.refl _ _ _ _).alloc _
 generalize gv x k n = z at Hg ⊢
 clear h h0
 go_enter Tryz.func197, Tryz.ntmps197
 go_wp2_with fail
 refine Hg.out.mono ?_
 rintro e w1 ⟨rfl, vs1, vo1, hm1, hf1⟩
 have H1 := af (fY z hm1 (by omega))
 have HF1 := af (HF.out.trans hf1)
 clear hm1 hf1 Hg
 go_wp2_with fail
 refine H1.out.mono ?_
 rintro e w2 ⟨rfl, hm2⟩
 have HR := af (MR.step HF1.out hm2)
 clear hm2
 go_wp2
 go_ret
 exact ⟨rfl, HR.out⟩
theorem do_2 (k n : Int) (v : Value) {a b : Int} {r : List Int} (h : aK TE lo x R w vs vo s) (h5 : 5 ≤ k) (h17 : k ≤ 17) (hs : s.st = a :: b :: r) (hl : s.st.length ≤ 50) :
  Calls Tryz.prog 197 #[.pointer (some ⟨R, 0, none⟩), .agg #[.int .i64 k, .int .i64 n, v]] w fun e w' => e = .returned (.int .i64 0) ∧ MR TE lo x R w vs vo w' ⟨s.fu, bL k b a :: r, s.out⟩ := by
 have h0 := h.alloc (.cells #[.int .i64 k, .int .i64 n, v] 230)
 have Ht := af (cF h0 hs)
 have Ho := af (fun W => ofTwo_any k b a W h5 h17)
 have HF : Hid (Fr R w vs vo (w.alloc (.cells #[.int .i64 k, .int .i64 n, v] 230)) vs vo) := (Fr.refl _ _ _ _).alloc _
 have hrl : r.length ≤ 50 := by rw [hs] at hl; simp at hl; omega
 generalize bL k b a = z at Ho ⊢
 clear h h0 hs hl
 go_enter Tryz.func197, Tryz.ntmps197
 go_wp2_with fail
 refine Ht.out.mono ?_
 rintro e w1 ⟨rfl, vs1, vo1, hm1, hf1⟩
 have H1 := af (cF hm1 rfl)
 have HF1 := af (HF.out.trans hf1)
 clear hm1 hf1 Ht
 go_wp2_with fail
 refine H1.out.mono ?_
 rintro e w2 ⟨rfl, vs2, vo2, hm2, hf2⟩
 have H2 := af (fY z hm2 (by show r.length ≤ 100; omega))
 have HF2 := af (HF1.out.trans hf2)
 clear hm2 hf2 H1
 go_wp2_with fail
 refine (Ho.out _).mono ?_
 rintro e w' ⟨rfl, rfl⟩
 go_wp2_with fail
 refine H2.out.mono ?_
 rintro e w3 ⟨rfl, hm3⟩
 have HR := af (MR.step HF2.out hm3)
 clear hm3
 go_wp2
 go_ret
 exact ⟨rfl, HR.out⟩
theorem do_3 (k n : Int) (v : Value) {a : Int} {r : List Int} (h : aK TE lo x R w vs vo s) (h5 : 18 ≤ k) (h17 : k ≤ 24) (hs : s.st = a :: r) (hl : s.st.length ≤ 50) :
  Calls Tryz.prog 197 #[.pointer (some ⟨R, 0, none⟩), .agg #[.int .i64 k, .int .i64 n, v]] w fun e w' => e = .returned (.int .i64 0) ∧ MR TE lo x R w vs vo w' ⟨s.fu, fy k a :: r, s.out⟩ := by
 have h0 := h.alloc (.cells #[.int .i64 k, .int .i64 n, v] 230)
 have Ht := af (cF h0 hs)
 have Ho := af (fun W => ofOne_any k a W h5 h17)
 have HF : Hid (Fr R w vs vo (w.alloc (.cells #[.int .i64 k, .int .i64 n, v] 230)) vs vo) := (Fr.refl _ _ _ _).alloc _
 have hrl : r.length ≤ 50 := by rw [hs] at hl; simp at hl; omega
 generalize fy k a = z at Ho ⊢
 clear h h0 hs hl
 go_enter Tryz.func197, Tryz.ntmps197
 go_wp2_with fail
 refine Ht.out.mono ?_
 rintro e w1 ⟨rfl, vs1, vo1, hm1, hf1⟩
 have H2 := af (fY z hm1 (by show r.length ≤ 100; omega))
 have HF2 := af (HF.out.trans hf1)
 clear hm1 hf1 Ht
 go_wp2_with fail
 refine (Ho.out _).mono ?_
 rintro e w' ⟨rfl, rfl⟩
 go_wp2_with fail
 refine H2.out.mono ?_
 rintro e w3 ⟨rfl, hm3⟩
 have HR := af (MR.step HF2.out hm3)
 clear hm3
 go_wp2
 go_ret
 exact ⟨rfl, HR.out⟩
theorem do_m (k n : Int) (v : Value) {s2 : St} (h5 : 25 ≤ k) (h27 : k ≤ 27)
  (Hm : Calls Tryz.prog 226 #[.pointer (some ⟨R, 0, none⟩), .int .i64 k] (w.alloc (.cells #[.int .i64 k, .int .i64 n, v] 230)) fun e w' => e = .returned (.tuple #[]) ∧ MR TE lo x R (w.alloc (.cells #[.int .i64 k, .int .i64 n, v] 230)) vs vo w' s2) :
  Calls Tryz.prog 197 #[.pointer (some ⟨R, 0, none⟩), .agg #[.int .i64 k, .int .i64 n, v]] w fun e w' => e = .returned (.int .i64 0) ∧ MR TE lo x R w vs vo w' s2 := by
 have HF : Hid (Fr R w vs vo (w.alloc (.cells #[.int .i64 k, .int .i64 n, v] 230)) vs vo) := (Fr.refl _ _ _ _).alloc _
 have HM := af Hm
 clear Hm
 go_enter Tryz.func197, Tryz.ntmps197
 go_wp2_with fail
 refine HM.out.mono ?_
 rintro e w1 ⟨rfl, hm1⟩
 have HR := af (MR.step HF.out hm1)
 clear hm1
 go_wp2
 go_ret
 exact ⟨rfl, HR.out⟩
theorem do_B (n k : Int) (v : Value) {q : Re} (h5 : k = 28 ∨ k = 29) (h : aK TE lo x R w vs vo s)
  (Hm : Calls Tryz.prog 227 #[.pointer (some ⟨R, 0, none⟩), .agg #[.int .i64 k, .int .i64 n, v]] (w.alloc (.cells #[.int .i64 k, .int .i64 n, v] 230)) fun e w' => bC TE lo x R (w.alloc (.cells #[.int .i64 k, .int .i64 n, v] 230)) vs vo q e w') :
  Calls Tryz.prog 197 #[.pointer (some ⟨R, 0, none⟩), .agg #[.int .i64 k, .int .i64 n, v]] w fun e w' => bC TE lo x R w vs vo q e w' := by
 have HF : Hid (Fr R w vs vo (w.alloc (.cells #[.int .i64 k, .int .i64 n, v] 230)) vs vo) := (Fr.refl _ _ _ _).alloc _
 have HM := af Hm
 have HH := af h
 clear Hm h
 have h28 : 28 ≤ k := by omega
 have h29 : k ≤ 29 := by omega
 clear h5
 go_enter Tryz.func197, Tryz.ntmps197
 go_wp2_with fail
 refine HM.out.mono ?_
 rintro e w1 hr
 have HR := af (bC.step HH.out HF.out hr)
 obtain ⟨c, hc⟩ : ∃ c, e = .returned (.int .i64 c) := by
  rcases hr with ⟨c, _, _, h, _⟩ | ⟨_, _, h, _⟩
  ·exact ⟨c, h⟩
  ·exact ⟨0, h⟩
 subst hc
 clear hr
 go_wp2
 go_ret
 exact HR.out
theorem do_30 (n : Int) (v : Value) {a b : Int} {r : List Int} (h : aK TE lo x R w vs vo s) (hs : s.st = a :: b :: r) (ho : s.out.length ≤ 256) :
  Calls Tryz.prog 197 #[.pointer (some ⟨R, 0, none⟩), .agg #[.int .i64 30, .int .i64 n, v]] w fun e w' => bC TE lo x R w vs vo (if s.out.length = 256 then .err 2 else .ok ⟨s.fu, r, s.out ++ [((b, x.1.2), a)]⟩) e w' := by
 have HF : Hid (Fr R w vs vo (w.alloc (.cells #[.int .i64 30, .int .i64 n, v] 230)) vs vo) := (Fr.refl _ _ _ _).alloc _
 have HM := af (emit_any (h.alloc (.cells #[.int .i64 30, .int .i64 n, v] 230)) hs ho)
 have HH := af h
 generalize hq : (if s.out.length = 256 then Re.err 2 else .ok ⟨s.fu, r, s.out ++ [((b, x.1.2), a)]⟩) = q
 have HQ := af hq
 clear h hs hq
 go_enter Tryz.func197, Tryz.ntmps197
 go_wp2_with fail
 refine HM.out.mono ?_
 rintro e w1 hr
 rcases hr with ⟨h1, rfl, hb⟩ | ⟨h1, rfl, hm⟩
 ·have HR : Hid (bC TE lo x R w vs vo q (.returned (.int .i64 2)) w1) := .inl ⟨2, by rw [← HQ.out, if_pos h1], by decide, rfl, (HH.out.below HF.out).trans hb⟩
  clear h1 hb
  go_wp2
  go_ret
  exact HR.out
 ·have HR : Hid (bC TE lo x R w vs vo q (.returned (.int .i64 0)) w1) := .inr ⟨_, by rw [← HQ.out, if_neg h1], rfl, MR.step HF.out hm⟩
  clear h1 hm
  go_wp2
  go_ret
  exact HR.out
end
theorem bo {T : TypeId} {lo : Nat} {x : Rc} {R : Nat} {w w' : World} {vs vo : Value} {q : Re} {s' : St} {e : Ending} (hq : q = .ok s') (h : e = .returned (.int .i64 0) ∧ MR T lo x R w vs vo w' s') : bC T lo x R w vs vo q e w' := .inr ⟨s', hq, h.1, h.2⟩
theorem do_any (B : Nat) (b : Fo) (IH : ListE B b) (k n : Int) (v : Value) (w : World) (lo : Nat) (x : Rc) (R : Nat) (vs vo : Value) (s : St) (d : Nat) (h fl m m2 : Int)
  (hf : FS (QB B) w v b) (hl : b.len ≤ 3518437208780) (hwf : jo b) (hal : bQ k n b = true) (hok : bm k = true → eZ b d = true) (h0 : 0 ≤ fl) (h1 : fl ≤ h - tk k) (h2 : h - tk k + lv k ≤ 16)
  (hnd : nd b (h - tk k + lv k) (h - tk k + lv k) (max m (h - tk k + lv k)) = some (h - tk k + lv k, m2)) (h3 : h ≤ m) (h4 : m ≤ 16)
  (hM : aK TE lo x R w vs vo s) (hO : Ok h s) (hfu : s.fu ≤ 2000) (hB : B ≤ lo) (hx : x.1.2.size ≤ 64) :
  Calls Tryz.prog 197 #[.pointer (some ⟨R, 0, none⟩), .agg #[.int .i64 k, .int .i64 n, v]] w fun e w' => bC TE lo x R w vs vo (iX x k n (ev x b) s) e w' := by
 have hkb := fH hal
 have hlen := hO.len
 have ht := tk_bd k
 have hlv := jQ k
 have hl50 : s.st.length ≤ 50 := by omega
 by_cases a1 : k ≤ 4
 ·obtain ⟨a, c, rfl⟩ := hf.val
  exact (do_1 k n a _ c hM hkb.1 a1 hx hl50).mono fun e w' h => bo (stp_1 a1) h
 by_cases a2 : k ≤ 17
 ·have e1 : tk k = 2 := by unfold tk; rw [if_neg a1, if_pos a2]
  obtain ⟨a, b', r, hs⟩ := kH (l := s.st) (by omega)
  exact (do_2 k n v hM (by omega) a2 hs hl50).mono fun e w' h => bo (stp_2 (by omega) a2 hs) h
 by_cases a3 : k ≤ 24
 ·have e1 : tk k = 1 := by unfold tk; rw [if_neg a1, if_neg a2, if_pos (by omega)]
  obtain ⟨a, r, hs⟩ := gN (l := s.st) (by omega)
  exact (do_3 k n v hM (by omega) a3 hs hl50).mono fun e w' h => bo (ln (by omega) a3 hs) h
 have hk : k = 25 ∨ k = 26 ∨ k = 27 ∨ (k = 28 ∨ k = 29) ∨ k = 30 := by omega
 rcases hk with rfl | rfl | rfl | hk | rfl
 ·have e1 : tk 25 = 1 := by decide
  obtain ⟨a, r, hs⟩ := gN (l := s.st) (by omega)
  exact (do_m 25 n v (by decide) (by decide) (move_25 (hM.alloc _) hs hl50)).mono fun e w' h => bo (stp_25 hs) h
 ·have e1 : tk 26 = 2 := by decide
  obtain ⟨a, b', r, hs⟩ := kH (l := s.st) (by omega)
  exact (do_m 26 n v (by decide) (by decide) (move_26 (hM.alloc _) hs hl50)).mono fun e w' h => bo (stp_26 hs) h
 ·have e1 : tk 27 = 1 := by decide
  obtain ⟨a, r, hs⟩ := gN (l := s.st) (by omega)
  exact (do_m 27 n v (by decide) (by decide) (move_27 (hM.alloc _) hs)).mono fun e w' h => bo (stp_27 hs) h
 ·have e1 : tk k = 1 ∧ lv k = 0 ∧ bm k = true := by rcases hk with rfl | rfl <;> decide
  obtain ⟨a, r, hs⟩ := gN (l := s.st) (by omega)
  have hrl : (r.length : Int) = h - tk k + lv k := by rw [hs] at hlen; simp only [List.length_cons] at hlen; omega
  have hbel : Below B w (w.alloc (.cells #[.int .i64 k, .int .i64 n, v] 230)) := (Below.refl _ _).alloc (by have := hM.lw; have := hM.blk.lt; omega) _
  rw [stp_B hk hs]
  exact do_B n k v hk hM (block_anyE B b IH k n v _ lo x R vs vo s d a r (max m (h - tk k + lv k)) m2 (hf.belowB hbel) hl hwf (hok e1.2.2) hs (by rw [hrl]; exact hnd) (by omega) (by omega) (hM.alloc _) hO.out hfu hB hx hk)
 ·have e1 : tk 30 = 2 := by decide
  obtain ⟨a, b', r, hs⟩ := kH (l := s.st) (by omega)
  rw [stp_30 hs]
  exact do_30 n v hM hs hO.out
end Go.Proofs.YtclcgakfmcofaaaGreatDoor
