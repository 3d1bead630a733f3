/- How words are read: what block, op and list tell. -/
import Derived.Test.YtaaijlkjbmpegaaDoorLNext
import Derived.Test.YtaaijlkjbmpegaaDoorLCopyO
import Derived.Deep.LoopGhost
namespace Go.Proofs.YtaaijlkjbmpegaaDoor
open Go.RowKit Go.Shelf
set_option linter.unusedVariables false
set_option maxRecDepth 100000

/-- Words as a text has them. -/
def WW (ws : List (List UInt8)) : Prop := ws.length ≤ 600 ∧ ∀ x ∈ ws, x ≠ [] ∧ x.length ≤ 512
theorem WW.tail {x : List UInt8} {ws : List (List UInt8)} (h : WW (x :: ws)) : WW ws := ⟨by have := h.1; simp at this; omega, fun y hy => h.2 y (by simp [hy])⟩
theorem WW.suffix {u ws : List (List UInt8)} (h : WW (u ++ ws)) : WW ws := ⟨by have := h.1; simp at this; omega, fun y hy => h.2 y (by simp [hy])⟩
/-- What one op comes to. -/
inductive Or1 where
  | err (c : Int)
  | ok (k n : Int) (b : Fo) (ws : List (List UInt8)) (m : Nat)
def OPP (d : Nat) (x : List UInt8) (ws : List (List UInt8)) (m : Nat) : Or1 → Prop
  | .err c => PL d (x :: ws) m (.err c) ∧ c ≠ 0
  | .ok k n b ws' m' => (∀ r, PL d ws' m' r → PL d (x :: ws) m (r.pre (one k n b))) ∧ m' ≤ 128 ∧ m < m' ∧ ∃ u, ws = u ++ ws'
/-- What list tells. -/
def LRes (R G : Nat) (w w' : World) (e : Ending) : Rs → Prop
  | .err c => e = .returned (.tuple #[.slice none 0 0, .int .i64 c]) ∧ c ≠ 0
  | .ok f ws' m' => ∃ v, e = .returned (.tuple #[v, .int .i64 0]) ∧ OwnF w.heap.size w' v f ∧ RB w' R G ws' m'
def LR (R G d : Nat) (ws : List (List UInt8)) (m : Nat) (w : World) (e : Ending) (w' : World) : Prop := ∃ r, PL d ws m r ∧ w.grownBy w' (some R) ∧ LRes R G w w' e r
/-- list's contract, at fewer than N words. -/
def ListC (N : Nat) : Prop := ∀ (ws : List (List UInt8)) (d m R G : Nat) (w : World), ws.length < N → d ≤ 6 → m ≤ 128 → WW ws → RB w R G ws m → Env w → 7 ≤ R →
  Calls Tryd.prog 24 #[.pointer (some ⟨R, 0, none⟩), .int .i64 d] w fun e w' => LR R G d ws m w e w'
/-- What block tells. -/
def BRes (R G : Nat) (w w' : World) (e : Ending) (k n : Int) : Or1 → Prop
  | .err c => e = .returned (.tuple #[.slice none 0 0, .int .i64 c])
  | .ok k' n' b ws' m' => k' = k ∧ n' = n ∧ ∃ v, e = .returned (.tuple #[v, .int .i64 0]) ∧ OwnF w.heap.size w' v b ∧ RB w' R G ws' m'
/-- What op tells. -/
def ORes (R G : Nat) (w w' : World) (e : Ending) : Or1 → Prop
  | .err c => e = .returned (.tuple #[.agg #[.int .i64 0, .int .i64 0, .slice none 0 0], .int .i64 c])
  | .ok k n b ws' m' => ∃ v, e = .returned (.tuple #[.agg #[.int .i64 k, .int .i64 n, v], .int .i64 0]) ∧ OwnF w.heap.size w' v b ∧ RB w' R G ws' m'

theorem gset {w w1 : World} {r : Option Nat} (h : w.grownBy w1 r) {b q : Nat} (hb : w.heap.size ≤ b) (u : Value) : w.grownBy (w1.setCell ⟨b, q, none⟩ u) r :=
  ⟨h.os, h.tape, h.output, by simpa [World.setCell] using h.size, fun k hk hne => (Below.heap_setCell _ _ _ _ (by show k ≠ b; omega)).trans (h.block k hk hne)⟩
theorem gsetR {w w1 : World} {R q : Nat} (h : w.grownBy w1 (some R)) (u : Value) : w.grownBy (w1.setCell ⟨R, q, none⟩ u) (some R) := h.trans (grownBy_set _ _ _ _)
theorem galloc {w w1 : World} {r : Option Nat} (h : w.grownBy w1 r) (o : Obj) : w.grownBy (w1.alloc o) r := h.trans (World.grownBy_alloc _ _ _)
theorem gbel {w w1 w2 : World} {r : Option Nat} (h : w.grownBy w1 r) (hb : Below w1.heap.size w1 w2) : w.grownBy w2 r := h.trans (grownBy_below hb r)
theorem rb_many {w : World} {R G m : Nat} {ws : List (List UInt8)} (h : RB w R G ws m) (m' : Nat) : RB (w.setCell ⟨R, 1, none⟩ (.int .i64 (m' : Int))) R G ws m' := by
  obtain ⟨h1, h2, a, cap, o, hb, hc, ha, hst⟩ := h
  refine ⟨h1, by simpa [World.setCell] using h2, a, cap, o, ?_, hc, ha, fun i x hx => ?_⟩
  · show (w.heap.modify _ _)[R]? = _
    rw [Array.getElem?_modify, hb]
    simp
  · rw [World.cell?_of_block (a := ⟨G, o + i, none⟩) (Below.heap_setCell _ _ _ _ h1)]
    exact hst i x hx
theorem RB.cell1 {w : World} {R G m : Nat} {ws : List (List UInt8)} (h : RB w R G ws m) : w.cell? ⟨R, 1, none⟩ = some (.int .i64 m) ∧ w.frozen? ⟨R, 1, none⟩ = false := by
  obtain ⟨h1, h2, a, cap, o, hb, _⟩ := h
  constructor <;> simp [World.cell?, World.frozen?, hb]
theorem RB.set {w : World} {R G m b q : Nat} {ws : List (List UInt8)} (h : RB w R G ws m) (hR : b ≠ R) (hG : b ≠ G) (u : Value) : RB (w.setCell ⟨b, q, none⟩ u) R G ws m :=
  h.keep (Below.heap_setCell _ _ _ _ (by show R ≠ b; omega)) (Below.heap_setCell _ _ _ _ (by show G ≠ b; omega)) (by simp [World.setCell])

theorem hidR {p : Prop} (h : p) : Hid p := h
set_option maxHeartbeats 400000 in
/-- block, behind an if or rep that may be. -/
theorem block_any (N : Nat) (IH : ListC N) (x : List UInt8) (k n : Int) (ws : List (List UInt8)) (d m R G : Nat) (w : World) (hN : ws.length ≤ N) (hd : d ≤ 6) (hm : m < 128) (hW : WW ws) (hx : opW x = some (k, n)) (hk : hasB k = true)
    (hr : RB w R G ws (m + 1)) (hE : Env w) (hR : 7 ≤ R) :
    Calls Tryd.prog 43 #[.pointer (some ⟨R, 0, none⟩), .int .i64 (d + 1)] w fun e w' => ∃ res, OPP d x ws m res ∧ w.grownBy w' (some R) ∧ BRes R G w w' e k n res := by
  cases ws with
  | nil =>
    have Hc := hidR (next_nil R G (m + 1) w hr)
    have HP := hidR (PL.cutB hx hk d (m := m) (by omega))
    clear hr hE
    go_enter Tryd.func43, Tryd.ntmps43
    go_wp2_with (go_at_call 33; refine Hc.out.mono ?_; rintro e w1 ⟨rfl, rfl⟩)
    go_ret2
    exact ⟨.err 6, ⟨HP.out, by decide⟩, World.grownBy.refl _ _, rfl⟩
  | cons y ws =>
    have hl := hW.1
    simp only [List.length_cons] at hl hN
    have Hc := hidR (next_cons R G (m + 1) y ws w hr (by omega))
    by_cases hy : y = openW
    · subst hy
      by_cases hd6 : 6 < d + 1
      · have HP := hidR (PL.deepB hx hk (m := m) (by omega) hd6 ws)
        have hy2 : (openW == [91]) = true := by decide
        have hdi : (6 : Int) < (d : Int) + 1 := by omega
        clear hr hE
        go_enter Tryd.func43, Tryd.ntmps43
        go_wp2_with (go_at_call 33; refine Hc.out.mono ?_; rintro e w1 ⟨rfl, hg1, hr1⟩)
        go_ret2
        exact ⟨.err 2, ⟨HP.out, by decide⟩, hg1, rfl⟩
      · have hdi : ¬ (6 : Int) < (d : Int) + 1 := by omega
        have hdi2 : (d : Int) + 1 ≤ 6 := by omega
        have HH := hidR IH
        have HE := hidR hE
        have HX := hidR hx
        have HK := hidR hk
        have HWW := hidR hW.tail
        clear hr hE hx hk hW IH
        go_enter Tryd.func43, Tryd.ntmps43
        go_wp2_with (go_at_call 33; refine Hc.out.mono ?_; rintro e w1 ⟨rfl, hg1, hr1⟩)
        have hL := HH.out ws (d + 1) (m + 1) R G w1 (by omega) (by omega) (by omega) HWW.out hr1 (HE.out.grown hg1 hR) hR
        rw [show ((d + 1 : Nat) : Int) = (d : Int) + 1 by omega] at hL
        refine hL.mono ?_
        rintro e w2 ⟨r, hp, hg2, hres⟩
        cases r with
        | err c =>
          obtain ⟨rfl, hc0⟩ := hres
          have HP := hidR (PL.errB HX.out HK.out (m := m) (by omega) hd6 hp)
          clear hp hr1
          go_wp2
          go_ret2
          exact ⟨.err c, ⟨HP.out, hc0⟩, hg1.trans hg2, rfl⟩
        | ok f ws' m' =>
          obtain ⟨v, rfl, hown, hr2⟩ := hres
          obtain ⟨fu, hfu⟩ := hp
          obtain ⟨_, _, hmt, hm2, u, hu⟩ := read_ok fu (d + 1) ws (m + 1) f ws' m' hfu (fun x hx => (HWW.out.2 x hx).1) (by omega) (by omega)
          have hmlt : m < m' := by omega
          clear hmt
          have HP := hidR (fun r (h2 : PL d ws' m' r) => PL.blk HX.out HK.out (m := m) (by omega) hd6 ⟨fu, hfu⟩ h2)
          have HO := hidR hown
          have HR := hidR hr2
          have HU := hidR hu
          obtain ⟨a, cap, rfl⟩ := hown.len
          have hsz := hg1.size
          clear hfu hr1 hown hr2 hu
          go_wp2
          go_ret2
          exact ⟨.ok k n f ws' m', ⟨HP.out, hm2, hmlt, openW :: u, by rw [HU.out]; rfl⟩, hg1.trans hg2, rfl, rfl, _, rfl, HO.out.lower hsz, HR.out⟩
    · have HP := hidR (PL.badB hx hk d (m := m) (by omega) hy ws)
      have hy2 : (y == [91]) = false := beq_eq_false_iff_ne.2 hy
      clear hr hE
      go_enter Tryd.func43, Tryd.ntmps43
      go_wp2_with (go_at_call 33; refine Hc.out.mono ?_; rintro e w1 ⟨rfl, hg1, hr1⟩)
      go_ret2
      exact ⟨.err 7, ⟨HP.out, by decide⟩, hg1, rfl⟩
end Go.Proofs.YtaaijlkjbmpegaaDoor
