/- Ops (of the statements): writes over ops that were told, blocks in blocks. -/
import Derived.Test.YtaaijlkjbmpegaaDoorLOps
namespace Go.Proofs.YtaaijlkjbmpegaaDoor
open Go.RowKit
set_option linter.unusedVariables false
set_option maxRecDepth 100000

theorem hidW {p : Prop} (h : p) : Hid p := h
/-- v is a slice of ops, in memory from lo on that may be written, at most so many blocks in blocks. -/
def Sh (lo : Nat) (w : World) : Nat → Value → Prop
  | 0, v => ∃ a cap, v = .slice a 0 cap
  | d + 1, v => ∃ a n cap, v = .slice a n cap ∧ n ≤ 1000000 ∧ (n = 0 ∨ ∃ g, a = some ⟨g, 0, none⟩ ∧ lo ≤ g ∧ (∃ cur, w.heap[g]? = some (.cells cur 60 (0, 0)) ∧ n * 3 ≤ cur.size) ∧
      ∀ i, i < n → ∃ u, w.cell? ⟨g, i * 3 + 2, none⟩ = some u ∧ Sh lo w d u)
theorem Sh.nil (lo : Nat) (w : World) : ∀ d, Sh lo w d (.slice none 0 0)
  | 0 => ⟨none, 0, rfl⟩
  | _ + 1 => ⟨none, 0, 0, rfl, by omega, .inl rfl⟩
/-- Where nothing but op's cells are written. -/
theorem Sh.set {lo : Nat} {w : World} (g q : Nat) (u : Value) (hu : q % 3 = 2 → u = .slice none 0 0) : ∀ (d : Nat) (v : Value), Sh lo w d v → Sh lo (w.setCell ⟨g, q, none⟩ u) d v := by
  intro d
  induction d with
  | zero => intro v h; exact h
  | succ d ih =>
    intro v h
    obtain ⟨a, n, cap, rfl, hn, h⟩ := h
    refine ⟨a, n, cap, rfl, hn, ?_⟩
    rcases h with h | ⟨g', rfl, hlo, ⟨cur, hb, hc⟩, hall⟩
    · exact .inl h
    refine .inr ⟨g', rfl, hlo, ?_, fun i hi => ?_⟩
    · by_cases hg : g' = g
      · subst hg
        refine ⟨cur.setIfInBounds q u, ?_, by simpa using hc⟩
        simp only [World.setCell, Array.getElem?_modify, hb]
        simp
      · exact ⟨cur, by rw [Below.heap_setCell _ _ _ _ hg]; exact hb, hc⟩
    · obtain ⟨x, hx, hs⟩ := hall i hi
      by_cases hg : g' = g
      · subst hg
        by_cases hq : i * 3 + 2 = q
        · subst hq
          have hnil := hu (by omega)
          subst hnil
          refine ⟨.slice none 0 0, ?_, Sh.nil _ _ _⟩
          simp only [World.cell?, World.setCell, Array.getElem?_modify, hb]
          simp [show i * 3 + 2 < cur.size by omega]
        · refine ⟨x, ?_, ih x hs⟩
          simp only [World.cell?, hb] at hx
          simp only [World.cell?, World.setCell, Array.getElem?_modify, hb]
          simp at hx ⊢
          rw [Array.getElem?_setIfInBounds_ne (fun e => hq e.symm)]
          exact hx
      · refine ⟨x, ?_, ih x hs⟩
        rw [World.cell?_of_block (a := ⟨g', i * 3 + 2, none⟩) (Below.heap_setCell _ _ _ _ hg)]
        exact hx
/-- From w to w' nothing below lo has turned, and what could be written over still can. -/
def Wp (lo : Nat) (w w' : World) : Prop := Below lo w w' ∧ ∀ d v, Sh lo w d v → Sh lo w' d v
theorem Wp.refl (lo : Nat) (w : World) : Wp lo w w := ⟨Below.refl _ _, fun _ _ h => h⟩
theorem Wp.trans {lo : Nat} {a b c : World} (h : Wp lo a b) (k : Wp lo b c) : Wp lo a c := ⟨h.1.trans k.1, fun d v x => k.2 d v (h.2 d v x)⟩
theorem Wp.set {lo : Nat} {w : World} (g q : Nat) (u : Value) (hg : lo ≤ g) (hu : q % 3 = 2 → u = .slice none 0 0) : Wp lo w (w.setCell ⟨g, q, none⟩ u) :=
  ⟨(Below.refl _ _).setCell hg _, fun d v h => Sh.set g q u hu d v h⟩
theorem fo_sz_at {f b r : Fo} {i : Nat} {k n : Int} (h : f.drop i = .cons k n b r) : b.sz < f.sz := Fo.sz_blk h
/-- Ops of the call's own can be written over. -/
theorem sh_fs {lo : Nat} {w : World} : ∀ (d : Nat) (f : Fo) (v : Value), f.sz ≤ d → FS (QO lo) w v f → (∀ g : Fo, g.sz ≤ f.sz → g.len ≤ 1000000) → Sh lo w d v := by
  intro d
  induction d with
  | zero =>
    intro f v hs h _
    obtain rfl : f = .nil := by cases f with
      | nil => rfl
      | cons k n b r => simp [Fo.sz] at hs
    obtain ⟨a, cap, rfl⟩ := h.val
    exact ⟨a, cap, rfl⟩
  | succ d ih =>
    intro f v hs h hl
    rcases h.shape with ⟨a, cap, rfl, rfl⟩ | ⟨g, o, cap, rfl, ⟨⟨ho, hlo⟩, cur, hb⟩, hat⟩
    · exact ⟨a, 0, cap, rfl, by omega, .inl rfl⟩
    · subst ho
      refine ⟨_, f.len, cap, rfl, hl f (Nat.le_refl _), ?_⟩
      by_cases h0 : f.len = 0
      · exact .inl h0
      refine .inr ⟨g, rfl, hlo, ⟨cur, hb, ?_⟩, fun i hi => ?_⟩
      · obtain ⟨_, _, _, _, u, _, _, _, _, _, c2, _⟩ := hat.at (i := f.len - 1) (by omega)
        simp only [World.cell?, hb] at c2
        simp at c2
        have := (Array.getElem?_eq_some_iff.1 c2).1
        omega
      · obtain ⟨k, n, b, r, u, e1, _, _, _, _, c2, hu⟩ := hat.at hi
        have hbs := Fo.sz_blk e1
        refine ⟨u, by simpa using c2, ih b u (by omega) hu (fun g hg => hl g (by omega))⟩

set_option maxHeartbeats 800000 in
theorem wipeO_any (lo : Nat) : ∀ (d : Nat) (v : Value) (w : World), Sh lo w d v →
    Calls Tryd.prog 12 #[v] w fun e w' => e = .returned (.tuple #[]) ∧ Wp lo w w' := by
  have hnone : ∀ (a : Option Addr) (cap : Nat) (w : World), Calls Tryd.prog 12 #[.slice a 0 cap] w fun e w' => e = .returned (.tuple #[]) ∧ Wp lo w w' := by
    intro a cap w
    go_enter Tryd.func12, Tryd.ntmps12
    go_wp2
    go_loop [2] (fun i => i = .int .i64 0) (fun _ => 0)
    case atStart => rfl
    case round =>
      subst hrel
      go_wp2
      go_end0
      exact ⟨rfl, Wp.refl _ _⟩
  intro d
  induction d with
  | zero =>
    intro v w h
    obtain ⟨a, cap, rfl⟩ := h
    exact hnone a cap w
  | succ d ih =>
    intro v w h
    have h' := h
    obtain ⟨a, n, cap, rfl, hn, h⟩ := h
    rcases h with rfl | ⟨g, rfl, hlo, _, _⟩
    · exact hnone a cap w
    have HI := hidW ih
    clear hnone ih
    go_enter Tryd.func12, Tryd.ntmps12
    go_wp2
    go_loopw [2] (fun i wr => ∃ k : Nat, k ≤ n ∧ i = .int .i64 k ∧ Wp lo w wr) (fun i _ => n - (intOf i).toNat)
    case atStart => exact ⟨0, by omega, rfl, Wp.refl _ _⟩
    case round =>
      obtain ⟨k, hk, rfl, hW⟩ := hrel
      by_cases hlt : k < n
      · have hS := hW.2 (d + 1) _ h'
        obtain ⟨a1, n1, cap1, e, _, hS⟩ := hS
        injection e with e1 e2 e3
        subst e1 e2 e3
        rcases hS with h0 | ⟨g1, e, _, _, hall⟩
        · omega
        injection e with e
        injection e with e
        subst e
        obtain ⟨u, hu, hsu⟩ := hall k hlt
        have hc := HI.out u wr hsu
        have HU := hidW hu
        have Hc := hidW hc
        clear hall hc hu hsu
        have hu := HU.out
        go_wp2_with (go_at_call 12; refine Hc.out.mono ?_)
        rintro e w1 rfl hW1
        have hW2 := hW.trans hW1
        obtain ⟨a1, n1, cap1, e, _, hS⟩ := hW2.2 (d + 1) _ h'
        injection e with e1 e2 e3
        subst e1 e2 e3
        rcases hS with h0 | ⟨g1, e, _, ⟨cur, hb, hcs⟩, _⟩
        · omega
        injection e with e
        injection e with e
        subst e
        have hfz : ∀ q, w1.frozen? ⟨g, q, none⟩ = false := fun q => by simp [World.frozen?, hb]
        have hce : ∀ q, q < n * 3 → ∃ x, w1.cell? ⟨g, q, none⟩ = some x := fun q hq => ⟨cur[q]'(by omega), by simp only [World.cell?, hb]; simp [show q < cur.size by omega]⟩
        obtain ⟨x0, c0⟩ := hce (k * 3) (by omega)
        obtain ⟨x1, c1⟩ := hce (k * 3 + 1) (by omega)
        obtain ⟨x2, c2⟩ := hce (k * 3 + 2) (by omega)
        clear hce hb Hc HU hu h'
        go_wp2
        go_roundw
        case rel => exact ⟨k + 1, by omega, by go_num, ((hW2.trans (Wp.set _ _ _ hlo (by omega))).trans (Wp.set _ _ _ hlo (by omega))).trans (Wp.set _ _ _ hlo (fun _ => rfl))⟩
        case measure => simp [intOf]; omega
      · have hlt' : n ≤ k := by omega
        clear h'
        go_wp2
        go_end0
        exact ⟨rfl, hW⟩
end Go.Proofs.YtaaijlkjbmpegaaDoor
