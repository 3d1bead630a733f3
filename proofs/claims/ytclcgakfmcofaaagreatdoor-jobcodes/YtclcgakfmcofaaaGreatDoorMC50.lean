/- Texts laid together: WKCount, WNs, WRJn, JTkB, PTRParts. -/
import Derived.Test.YtclcgakfmcofaaaGreatDoorMC49
import Derived.Test.YtclcgakfmcofaaaGreatDoorMC5
import Derived.Test.YtclcgakfmcofaaaGreatDoorMC9
import Derived.Test.YtclcgakfmcofaaaGreatDoorMC43
import Derived.Test.YtclcgakfmcofaaaGreatDoorMC41
import Derived.Test.YtclcgakfmcofaaaGreatDoorMC25
import Derived.Test.YtclcgakfmcofaaaGreatDoorMC36
import Derived.Test.YtclcgakfmcofaaaGreatDoorMC32
namespace Go.Proofs.YtclcgakfmcofaaaGreatDoor
open Go.RowKit Go.Deep
set_option linter.unusedVariables false
set_option maxRecDepth 100000
theorem OwnN.base {w : World} {base base' : Nat} {v : Value} {l : List Int} (h : OwnN w base v l) (hb : base' ≤ base) : OwnN w base' v l := by
 refine ⟨h.1, ?_⟩
 rcases h.2 with ⟨h1, h2⟩ | ⟨g, cap, cur, h1, h2, h3⟩
 ·exact .inl ⟨h1, h2⟩
 ·exact .inr ⟨g, cap, cur, h1, Nat.le_trans hb h2, h3⟩
theorem rows_apart {w : World} {base base' : Nat} {v u : Value} {ks : List Ky} {ms : List Int} (h : OwnK w base v ks) (h' : OwnN w base' u ms) : v.ownBlock = none ∨ v.ownBlock ≠ u.ownBlock := by
 rcases h.2 with ⟨rfl, _⟩ | ⟨g, cap, cur, rfl, _, hb, _⟩
 ·exact .inl rfl
 right
 rcases h'.2 with ⟨rfl, _⟩ | ⟨g', cap', cur', rfl, _, hb', _⟩
 ·simp [Value.ownBlock]
 ·intro e
  have e' : g = g' := by simpa [Value.ownBlock] using e
  subst e'
  rw [hb] at hb'
  injection hb' with hb'
  injection hb' with _ hb' _
  revert hb'
  decide
theorem apart_symm {a b : Option Nat} (h : a = none ∨ a ≠ b) : b = none ∨ b ≠ a := by
 rcases h with h | h
 ·subst h; cases b
  ·exact .inl rfl
  ·exact .inr (by simp)
 ·exact .inr (Ne.symm h)
theorem OwnN.set {w : World} {base g cap : Nat} {ms : List Int} {m x : Int} (h : OwnN w base (.slice (some ⟨g, 0, none⟩) (ms.length + 1) cap) (ms ++ [m])) :
  OwnN (w.setCell ⟨g, ms.length, none⟩ (.int .i64 x)) base (.slice (some ⟨g, 0, none⟩) (ms.length + 1) cap) (ms ++ [x]) := by
 rcases h.2 with ⟨h0, _⟩ | ⟨g', cap', cur, hv, hg, hb, h1, h2, h3, h4⟩
 ·cases h0
 obtain ⟨rfl, rfl⟩ : g = g' ∧ cap = cap' := by simpa using hv
 refine ⟨by simp, .inr ⟨g, cap, cur.setIfInBounds ms.length (.int .i64 x), by simp, hg, ?_, by simpa using h1, h2, by simpa using h3, ?_⟩⟩
 ·simp only [World.setCell, Array.getElem?_modify, hb]
  simp
 ·simp only [List.length_append, List.length_cons, List.length_nil, Nat.mul_one] at h1 h3 h4 ⊢
  rw [Array.toList_setIfInBounds, List.take_set, h4, List.map_append, List.map_append]
  simp
theorem OwnN.last {w : World} {base g cap : Nat} {ms : List Int} {m : Int} (h : OwnN w base (.slice (some ⟨g, 0, none⟩) (ms.length + 1) cap) (ms ++ [m])) :
  w.cell? ⟨g, ms.length, none⟩ = some (.int .i64 m) ∧ w.frozen? ⟨g, ms.length, none⟩ = false := by
 rcases h.2 with ⟨h0, _⟩ | ⟨g', cap', cur, hv, hg, hb, h1, h2, h3, h4⟩
 ·cases h0
 obtain ⟨rfl, rfl⟩ : g = g' ∧ cap = cap' := by simpa using hv
 have h0 : ((ms ++ [m]).map (Value.int .i64))[ms.length]? = some (.int .i64 m) := by simp
 simp only [List.length_append, List.length_cons, List.length_nil, Nat.mul_one] at h4
 rw [← h4, List.getElem?_take_of_lt (by simp)] at h0
 exact ⟨by simp only [World.cell?, hb]; simpa using h0, by simp [World.frozen?, hb]⟩
theorem run_new {s : List Ky} (hs : s.Pairwise (fun x y => ltK y x = false)) {p : Nat} {y z : Ky} (hz : s[p]? = some z) (hy : s[p + 1]? = some y) (hne : y ≠ z) : ∀ x ∈ s.take (p + 1), ltK x y = true := by
 have e1 : s.take (p + 1) = s.take p ++ [z] := by rw [List.take_add_one, hz]; rfl
 have e2 : s.take (p + 1 + 1) = s.take p ++ [z] ++ [y] := by rw [List.take_add_one, hy, e1]; rfl
 have h2 := hs
 rw [← List.take_append_drop (p + 1 + 1) s, List.pairwise_append, e2, List.pairwise_append, List.pairwise_append] at h2
 obtain ⟨⟨⟨_, _, h3⟩, _, h4⟩, _⟩ := h2
 have hzy : ltK z y = true := by
  have h5 := h4 z (by simp) y (by simp)
  cases h6 : ltK z y
  ·exact absurd (ltK_total h5 h6) hne
  ·rfl
 rw [e1]
 intro x hx
 rcases List.mem_append.1 hx with hx | hx
 ·exact le_ltK (h3 x hx z (by simp)) hzy
 ·rw [List.mem_singleton] at hx; subst hx; exact hzy
def Runs (s : List Ky) (k : Nat) (ks : List Ky) (ms : List Int) : Prop :=
 Cnt (s.take k) ks ms ∧ ∀ p z, k = p + 1 → s[p]? = some z → ∃ ks' ms' m, ks = ks' ++ [z] ∧ ms = ms' ++ [m]
theorem Runs.start (s : List Ky) : Runs s 0 [] [] := ⟨Cnt.nil, fun p z h => by omega⟩
theorem Runs.new {s : List Ky} {k : Nat} {ks : List Ky} {ms : List Int} {y : Ky} (h : Runs s k ks ms) (hy : s[k]? = some y) (hx : ∀ x ∈ s.take k, ltK x y = true) : Runs s (k + 1) (ks ++ [y]) (ms ++ [1]) := by
 refine ⟨?_, fun p z hp hz => ?_⟩
 ·have e : s.take (k + 1) = s.take k ++ [y] := by rw [List.take_add_one, hy]; rfl
  rw [e]
  exact h.1.new hx
 ·obtain rfl : k = p := by omega
  rw [hy] at hz
  injection hz with hz
  subst hz
  exact ⟨ks, ms, 1, rfl, rfl⟩
theorem Runs.more {s : List Ky} {p : Nat} {ks : List Ky} {ms : List Int} {m : Int} {y : Ky} (h : Runs s (p + 1) (ks ++ [y]) (ms ++ [m])) (hy : s[p + 1]? = some y) : Runs s (p + 1 + 1) (ks ++ [y]) (ms ++ [m + 1]) := by
 refine ⟨?_, fun q z hp hz => ?_⟩
 ·have e : s.take (p + 1 + 1) = s.take (p + 1) ++ [y] := by rw [List.take_add_one, hy]; rfl
  rw [e]
  exact h.1.more
 ·obtain rfl : q = p + 1 := by omega
  rw [hy] at hz
  injection hz with hz
  subst hz
  exact ⟨ks, ms, m + 1, rfl, rfl⟩
theorem Runs.bound {s : List Ky} {k : Nat} {ks : List Ky} {ms : List Int} {m : Int} (h : Runs s k ks (ms ++ [m])) : 0 ≤ m ∧ m ≤ s.length := by
 have e := h.1.2.2
 have hm : m ∈ ks.map fun x => (cnt (s.take k) x : Int) := by rw [← e]; simp
 obtain ⟨x, _, rfl⟩ := List.mem_map.1 hm
 have := cnt_le (s.take k) x
 simp at this ⊢
 omega
theorem Runs.len {s : List Ky} {k : Nat} {ks : List Ky} {ms : List Int} (h : Runs s k ks ms) : ks.length ≤ s.length ∧ ms.length = ks.length := by
 have h1 := h.1.le
 have h2 := h.1.length
 simp at h1
 exact ⟨by omega, h2⟩
def CountPost (l : List Ky) (w : World) (e : Ending) (w' : World) : Prop :=
 ∃ v1 v2 ks ms, e = .returned (.tuple #[v1, v2]) ∧ Cnt l ks ms ∧ OwnK w' w.heap.size v1 ks ∧ OwnN w' w.heap.size v2 ms ∧ Below w.heap.size w w'
set_option maxRecDepth 100000 in
set_option maxHeartbeats 1600000 in
theorem rcount_any (v : Value) (l : List Ky) (w : World) (h : KS w v l) (hl : l.length ≤ 100000) :
  Calls Tryz.prog 156 #[v] w fun e w' => CountPost l w e w' := by
 obtain ⟨i0, hi, hz0, hz1, hz2⟩ := info_parts Tryz.infoKey
 obtain ⟨i1, hj, hy0, hy1, hy2⟩ := info_parts Tryz.info3
 have hsort := rsort_any v l w h hl
 clear h
 go_enter Tryz.func156, Tryz.ntmps156
 go_wp2_with fail
 refine hsort.mono ?_
 rintro e w1 ⟨va, s, rfl, hS, hva, hbel1⟩
 have hsl : s.length = l.length := hS.1.length_eq
 have hsz1 := hbel1.size
 have hfin : ∀ {k ks ms}, Runs s k ks ms → s.length ≤ k → Cnt l ks ms := fun hR hk => by
  have := hR.1
  rw [List.take_of_length_le hk] at this
  exact this.perm hS.1
 by_cases hs0 : s = []
 ·subst hs0
  obtain ⟨aa, ca, rfl⟩ : ∃ aa ca, va = .slice aa 0 ca := by
   rcases hva.2 with ⟨rfl, _⟩ | ⟨g, cap, cur, rfl, _⟩
   ·exact ⟨_, _, rfl⟩
   ·exact ⟨_, _, rfl⟩
  go_wp2
  go_loop [4, 5, 7] (fun a b i => a = .slice none 0 0 ∧ b = .slice none 0 0 ∧ i = .int .i64 0) (fun _ _ _ => 0)
  case atStart => exact ⟨rfl, rfl, rfl⟩
  case round =>
   obtain ⟨rfl, rfl, rfl⟩ := hrel
   go_wp2
   go_ret2
   exact ⟨_, _, [], [], rfl, hfin (Runs.start []) (by simp), World.ownsRow_nil _ _ _ _, World.ownsRow_nil _ _ _ _, hbel1⟩
 ·rcases hva.2 with ⟨_, h0⟩ | ⟨g, cp, cur, hv, hg, hgb, hn1, hn2, hn3, hn4⟩
  ·exact absurd (List.length_eq_zero_iff.1 h0) hs0
  have hgl : g < w1.heap.size := (Array.getElem?_eq_some_iff.1 hgb).1
  have hka : KeysAt w1 g 0 s := keysAt_of_block hgb hn4
  subst hv
  clear hva hgb hn1 hn2 hn3 hn4 hs0
  go_wp2
  go_loopw [4, 5, 7] (fun a b i wr => ∃ (k : Nat) (ks : List Ky) (ms : List Int), k ≤ s.length ∧ i = .int .i64 k ∧ Runs s k ks ms ∧ OwnK wr w1.heap.size a ks ∧ OwnN wr w1.heap.size b ms ∧ Below w1.heap.size w1 wr) (fun _ _ i _ => s.length - (intOf i).toNat)
  case atStart => exact ⟨0, [], [], by omega, rfl, Runs.start _, World.ownsRow_nil _ _ _ _, World.ownsRow_nil _ _ _ _, Below.refl _ _⟩
  case round =>
   rename World => w0
   obtain ⟨k, ks, ms, hk, rfl, hR, hok, hon, hbr⟩ := hrel
   have hsz0 := hbr.size
   by_cases hlt : k < s.length
   ·obtain ⟨⟨ya, yb⟩, hy⟩ := getSome hlt
    obtain ⟨c0, c1⟩ := hka.below hbr hgl k _ hy
    rw [Nat.zero_add] at c0 c1
    simp only at c0 c1
    have hgd := guardK
    obtain ⟨hkl, hml⟩ := hR.len
    by_cases hk0 : k = 0
    ·have hd : decide ((0 : Int) < (k : Int)) = false := by simp; omega
     have hd2 : decide (0 < k) = false := by simp; omega
     have HNEW : Hid (Runs s (k + 1) (ks ++ [(ya, yb)]) (ms ++ [1])) := hR.new hy (by rw [hk0]; simp)
     clear hR hk0 hfin
     go_wp2
     go_quiet (fail)
     have hbr1 : Below w1.heap.size w1 (w0.drewN nq) := ⟨hbr.os, hbr.tape, hbr.output, hbr.size, hbr.block⟩
     have hok1 : OwnK (w0.drewN nq) w1.heap.size _ ks := hok
     have hon1 : OwnN (w0.drewN nq) w1.heap.size _ ms := hon
     have c2 : (w0.drewN nq).cell? ⟨g, k * 2, none⟩ = some (.int .i64 ya) := c0
     have c3 : (w0.drewN nq).cell? ⟨g, k * 2 + 1, none⟩ = some (.string yb) := c1
     clear hbr hok hon c0 c1
     generalize w0.drewN nq = w2 at hbr1 hok1 hon1 c2 c3 ⊢
     have hsz2 := hbr1.size
     go_wp2_with (at_builtin; refine wpList_append_own _ rfl _ _ 245 rfl w1.heap.size 124 i0 _ 2 24 Tryz.underlying245 hi hz0 hz1 hz2 rfl (by decide) _ _ _ rfl (hok1.alloc _) ⟨w2.heap.size, 0, none⟩ 1 1 [.int .i64 ya, .string yb] rfl rfl (cell_key_new _ _ _ _) (key_cells _ _) ?c3 ?c4 ?c5 ?_)
     case c3 => unfold maxLen; omega
     case c4 => omega
     case c5 => first | omega | (simp; omega)
     intro v3 w3 hown3 hgrow3 _
     have hok3 : OwnK w3 w1.heap.size v3 (ks ++ [(ya, yb)]) := OwnK.snoc (x := (ya, yb)) hown3 rfl
     have hon3 : OwnN w3 w1.heap.size _ ms := (hon1.alloc _).kept hgrow3 (apart_symm (rows_apart hok1 hon1))
     have hbr3 : Below w1.heap.size w1 w3 := (hbr1.alloc hsz2 _).grown hgrow3 (by simp; omega) (own_row hok1)
     clear hown3 hgrow3 hok1 hon1 hbr1 c2 c3 hsz2
     have hsz3 := hbr3.size
     go_wp2_with (at_builtin; refine wpList_append_own _ rfl _ _ 25 rfl w1.heap.size 3 i1 _ 1 8 Tryz.underlying25 hj hy0 hy1 hy2 rfl (by decide) _ _ _ rfl (hon3.alloc _) ⟨w3.heap.size, 0, none⟩ 1 1 [.int .i64 1] rfl rfl (cell_one_new _ _ _) (ints_oneCell .i64 [1]) ?c3 ?c4 ?c5 ?_)
     case c3 => unfold maxLen; omega
     case c4 => omega
     case c5 => first | omega | (simp; omega)
     intro v4 w4 hown4 hgrow4 _
     have hon4 : OwnN w4 w1.heap.size v4 (ms ++ [1]) := OwnN.snoc hown4 (by first | rfl | omega)
     have hok4 : OwnK w4 w1.heap.size v3 (ks ++ [(ya, yb)]) := (hok3.alloc _).kept hgrow4 (rows_apart hok3 hon3)
     have hbr4 : Below w1.heap.size w1 w4 := (hbr3.alloc hsz3 _).grown hgrow4 (by simp; omega) (own_row hon3)
     clear hown4 hgrow4 hok3 hon3 hbr3 hsz3
     go_wp2
     go_roundw
     case rel => exact ⟨k + 1, _, _, by omega, by go_num, HNEW.out, hok4, hon4, hbr4⟩
     case measure => simp [intOf]; omega
    ·obtain ⟨p, rfl⟩ : ∃ p, k = p + 1 := ⟨k - 1, by omega⟩
     obtain ⟨⟨za, zb⟩, hz⟩ := getSome (l := s) (i := p) (by omega)
     obtain ⟨d0, d1⟩ := hka.below hbr hgl p _ hz
     rw [Nat.zero_add] at d0 d1
     simp only at d0 d1
     have hwp : IntKind.i64.wrap (p : Int) = p := wrapN p (by omega)
     have hp0 : (0 : Int) ≤ p := by omega
     have hps : (p : Int) < s.length := by omega
     have hk1 : (0 : Int) ≤ ((p + 1 : Nat) : Int) := by omega
     have hks : ((p + 1 : Nat) : Int) < s.length := by omega
     have hd : decide ((0 : Int) < ((p + 1 : Nat) : Int)) = true := by simp
     have heq := eqK ya za yb zb
     by_cases he : (ya, yb) = (za, zb)
     ·cases he
      rw [eqB_self] at heq
      obtain ⟨ks', ms', m, rfl, rfl⟩ := hR.2 p _ rfl hz
      obtain ⟨hm0, hm1⟩ := hR.bound
      have HNEW : Hid (Runs s (p + 1 + 1) (ks' ++ [(ya, yb)]) (ms' ++ [m + 1])) := hR.more hy
      have hlm : ms'.length + 1 ≤ 100001 := by simp at hml hkl; omega
      rcases hon.2 with ⟨_, h0⟩ | ⟨gm, capm, cur2, hvm, hgm, _⟩
      ·simp at h0
      rw [show (ms' ++ [m]).length = ms'.length + 1 by simp] at hvm
      subst hvm
      clear hR hfin hkl hml
      go_wp2
      go_quiet (fail)
      have hbr1 : Below w1.heap.size w1 (w0.drewN nq) := ⟨hbr.os, hbr.tape, hbr.output, hbr.size, hbr.block⟩
      have hok1 : OwnK (w0.drewN nq) w1.heap.size _ (ks' ++ [(ya, yb)]) := hok
      have hon1 : OwnN (w0.drewN nq) w1.heap.size _ (ms' ++ [m]) := hon
      clear hbr hok hon c0 c1 d0 d1
      generalize w0.drewN nq = w2 at hbr1 hok1 hon1 ⊢
      obtain ⟨m0, m1⟩ := OwnN.last hon1
      have hset := OwnN.set (x := m + 1) hon1
      have hok2 := hok1.kept (grownBy_set w2 gm ms'.length (.int .i64 (m + 1))) (rows_apart hok1 hon1)
      have hbr2 : Below w1.heap.size w1 (w2.setCell ⟨gm, ms'.length, none⟩ (.int .i64 (m + 1))) := hbr1.setCell hgm _
      clear hbr1 hok1 hon1
      go_wp2
      go_roundw
      case rel => exact ⟨p + 1 + 1, _, _, by omega, by go_num, HNEW.out, hok2, hset, hbr2⟩
      case measure => simp [intOf]; omega
     ·have he' : eqB (ya, yb) (za, zb) = false := by simpa [eqB] using he
      rw [he'] at heq
      have HNEW : Hid (Runs s (p + 1 + 1) (ks ++ [(ya, yb)]) (ms ++ [1])) := hR.new hy (run_new hS.2 hz hy he)
      clear hR hfin he he'
      go_wp2
      go_quiet (fail)
      have hbr1 : Below w1.heap.size w1 (w0.drewN nq) := ⟨hbr.os, hbr.tape, hbr.output, hbr.size, hbr.block⟩
      have hok1 : OwnK (w0.drewN nq) w1.heap.size _ ks := hok
      have hon1 : OwnN (w0.drewN nq) w1.heap.size _ ms := hon
      have c2 : (w0.drewN nq).cell? ⟨g, (p + 1) * 2, none⟩ = some (.int .i64 ya) := c0
      have c3 : (w0.drewN nq).cell? ⟨g, (p + 1) * 2 + 1, none⟩ = some (.string yb) := c1
      clear hbr hok hon c0 c1
      generalize w0.drewN nq = w2 at hbr1 hok1 hon1 c2 c3 ⊢
      have hsz2 := hbr1.size
      go_wp2_with (at_builtin; refine wpList_append_own _ rfl _ _ 245 rfl w1.heap.size 124 i0 _ 2 24 Tryz.underlying245 hi hz0 hz1 hz2 rfl (by decide) _ _ _ rfl (hok1.alloc _) ⟨w2.heap.size, 0, none⟩ 1 1 [.int .i64 ya, .string yb] rfl rfl (cell_key_new _ _ _ _) (key_cells _ _) ?c3 ?c4 ?c5 ?_)
      case c3 => unfold maxLen; omega
      case c4 => omega
      case c5 => first | omega | (simp; omega)
      intro v3 w3 hown3 hgrow3 _
      have hok3 : OwnK w3 w1.heap.size v3 (ks ++ [(ya, yb)]) := OwnK.snoc (x := (ya, yb)) hown3 rfl
      have hon3 : OwnN w3 w1.heap.size _ ms := (hon1.alloc _).kept hgrow3 (apart_symm (rows_apart hok1 hon1))
      have hbr3 : Below w1.heap.size w1 w3 := (hbr1.alloc hsz2 _).grown hgrow3 (by simp; omega) (own_row hok1)
      clear hown3 hgrow3 hok1 hon1 hbr1 c2 c3 hsz2
      have hsz3 := hbr3.size
      go_wp2_with (at_builtin; refine wpList_append_own _ rfl _ _ 25 rfl w1.heap.size 3 i1 _ 1 8 Tryz.underlying25 hj hy0 hy1 hy2 rfl (by decide) _ _ _ rfl (hon3.alloc _) ⟨w3.heap.size, 0, none⟩ 1 1 [.int .i64 1] rfl rfl (cell_one_new _ _ _) (ints_oneCell .i64 [1]) ?c3 ?c4 ?c5 ?_)
      case c3 => unfold maxLen; omega
      case c4 => omega
      case c5 => first | omega | (simp; omega)
      intro v4 w4 hown4 hgrow4 _
      have hon4 : OwnN w4 w1.heap.size v4 (ms ++ [1]) := OwnN.snoc hown4 (by first | rfl | omega)
      have hok4 : OwnK w4 w1.heap.size v3 (ks ++ [(ya, yb)]) := (hok3.alloc _).kept hgrow4 (rows_apart hok3 hon3)
      have hbr4 : Below w1.heap.size w1 w4 := (hbr3.alloc hsz3 _).grown hgrow4 (by simp; omega) (own_row hon3)
      clear hown4 hgrow4 hok3 hon3 hbr3 hsz3
      go_wp2
      go_roundw
      case rel => exact ⟨p + 1 + 1, _, _, by omega, by go_num, HNEW.out, hok4, hon4, hbr4⟩
      case measure => simp [intOf]; omega
   ·have hlt' : s.length ≤ k := by omega
    go_wp2
    go_ret2
    exact ⟨_, _, ks, ms, rfl, hfin hR hlt', hok.base hsz1, hon.base hsz1, hbel1.trans (hbr.mono hsz1)⟩
end Go.Proofs.YtclcgakfmcofaaaGreatDoor
namespace Go.Proofs.YtclcgakfmcofaaaGreatDoor
open Go.RowKit
set_option linter.unusedVariables false
set_option maxRecDepth 100000
def AllN (w : World) (xs : List Raw) (l : List Rw) : Prop := xs.length = l.length ∧ ∀ (i : Nat) (x : Raw) (r : Rw), xs[i]? = some x → l[i]? = some r → x.1 = r.1 ∧ x.2.1 = r.2.1 ∧ x.2.2.2.1 = r.2.2.length ∧ NS w (slV x.2.2) r.2.2
theorem AllN.nil (w : World) : AllN w [] [] := ⟨rfl, fun i x r h => by simp at h⟩
theorem AllN.one {w : World} {k : Ky} {n : Int} {l : List Int} {s : Option Addr} {p : Nat} (h : NS w (.slice s l.length p) l) : AllN w [(k, n, (s, l.length, p))] [(k, (n, l))] := ⟨rfl, fun i x r h1 h2 => by
 match i, h1, h2 with
 | 0, h1, h2 => simp at h1 h2; subst h1 h2; exact ⟨rfl, rfl, rfl, h⟩⟩
theorem AllN.app {w : World} {xs ys : List Raw} {l m : List Rw} (h : AllN w xs l) (k : AllN w ys m) : AllN w (xs ++ ys) (l ++ m) := by
 refine ⟨by simp [h.1, k.1], fun i y s h1 h2 => ?_⟩
 by_cases hi : i < xs.length
 ·rw [List.getElem?_append_left hi] at h1
  rw [List.getElem?_append_left (h.1 ▸ hi)] at h2
  exact h.2 i y s h1 h2
 ·rw [List.getElem?_append_right (by omega)] at h1
  rw [List.getElem?_append_right (by have := h.1; omega), ← h.1] at h2
  exact k.2 _ y s h1 h2
theorem WS.raw {w : World} {v : Value} {l : List Rw} (h : WS w v l) : ∃ ys, XS w v ys ∧ AllN w ys l := by
 obtain ⟨a, cap, rfl, h⟩ := h
 rcases h with rfl | ⟨b, off, rfl, hb, hat⟩
 ·exact ⟨[], ⟨a, cap, rfl, .inl rfl⟩, AllN.nil _⟩
 ·have key : ∀ k, k ≤ l.length → ∃ ys : List Raw, ys.length = k ∧ AllN w ys (l.take k) ∧ ∀ (j : Nat) (u : Value), (flatW ys)[j]? = some u → w.cell? ⟨b, off + j, none⟩ = some u := by
   intro k
   induction k with
   | zero => intro _; exact ⟨[], rfl, by simpa using AllN.nil w, fun j u h => by simp at h⟩
   | succ k ih =>
    intro hk
    obtain ⟨ys, e1, e2, e3⟩ := ih (by omega)
    obtain ⟨⟨⟨ya, yb⟩, yn, yl⟩, hy⟩ := getSome (l := l) (i := k) (by omega)
    obtain ⟨c0, c1, c2, s1, p1, c3, n1⟩ := hat k _ hy
    simp only at c0 c1 c2 c3 n1
    refine ⟨ys ++ [((ya, yb), yn, (s1, yl.length, p1))], by simp [e1], ?_, fun j u hj => ?_⟩
    ·rw [List.take_add_one, hy]
     exact e2.app (AllN.one n1)
    ·have hfl := flatW_len ys
     rw [flatW_app, flatW_one] at hj
     by_cases hlt : j < (flatW ys).length
     ·rw [List.getElem?_append_left hlt] at hj
      exact e3 j u hj
     ·rw [List.getElem?_append_right (by omega)] at hj
      obtain ⟨d, rfl⟩ : ∃ d, j = k * 4 + d := ⟨j - k * 4, by omega⟩
      rw [show k * 4 + d - (flatW ys).length = d by omega] at hj
      rw [← Nat.add_assoc]
      match d, hj with
      | 0, hj => simp at hj; subst hj; exact c0
      | 1, hj => simp at hj; subst hj; exact c1
      | 2, hj => simp at hj; subst hj; exact c2
      | 3, hj => simp at hj; subst hj; exact c3
      | d + 4, hj => simp at hj
  obtain ⟨ys, e1, e2, e3⟩ := key l.length (Nat.le_refl _)
  rw [List.take_length] at e2
  exact ⟨ys, ⟨_, cap, by rw [e1], .inr ⟨b, off, rfl, hb, e3⟩⟩, e2⟩
def OwnA (w0 w : World) (v : Value) (l : List Rw) : Prop := ∃ xs, OwnX w w0.heap.size v xs ∧ AllN w0 xs l
theorem OwnA.nil (w0 w : World) : OwnA w0 w (.slice none 0 0) [] := ⟨[], World.ownsRow_nil _ _ _ _, AllN.nil _⟩
theorem OwnA.ws {w0 w : World} {v : Value} {l : List Rw} (h : OwnA w0 w v l) (hb : Below w0.heap.size w0 w) : WS w v l := by
 obtain ⟨xs, hx, ha⟩ := h
 have hx0 := hx
 rcases hx.2 with ⟨rfl, h0⟩ | ⟨g, cap, cur, rfl, _, _⟩
 ·have : xs = [] := List.length_eq_zero_iff.1 h0
  subst this
  have : l = [] := List.length_eq_zero_iff.1 ha.1.symm
  subst this
  exact ⟨none, 0, rfl, .inl rfl⟩
 ·obtain ⟨h1, -, -, h2⟩ := hx0.cell
  refine ⟨_, cap, by rw [ha.1], .inr ⟨g, 0, rfl, h1, fun i r hr => ?_⟩⟩
  have hi : i < l.length := (List.getElem?_eq_some_iff.1 hr).1
  obtain ⟨x, hx'⟩ := getSome (l := xs) (i := i) (by rw [ha.1]; exact hi)
  obtain ⟨q0, q1, q2, q3⟩ := flatW_get xs i x hx'
  obtain ⟨ek, en, el, es⟩ := ha.2 i x r hx' hr
  obtain ⟨xk, xn, xa, xl, xc⟩ := x
  simp only at ek en el es q0 q1 q2 q3
  subst ek en el
  refine ⟨?_, ?_, ?_, xa, xc, ?_, es.below hb⟩
  ·rw [Nat.zero_add]; exact h2 _ _ q0
  ·rw [Nat.zero_add]; exact h2 _ _ q1
  ·rw [Nat.zero_add]; exact h2 _ _ q2
  ·rw [Nat.zero_add]; exact h2 _ _ q3
theorem OwnA.app {w0 w : World} {v u : Value} {l m : List Rw} (ty : TypeId) (h : OwnA w0 w v l) (hb : Below w0.heap.size w0 w) (hu : WS w0 u m) (hl : l.length + m.length ≤ 1000000) :
  ∃ v' W', (Builtin.append_ #[61, 61] ty #[v, u]).run Tryz.prog w = .ok v' W' ∧ OwnA w0 W' v' (l ++ m) ∧ Below w0.heap.size w0 W' := by
 obtain ⟨xs, hx, ha⟩ := h
 obtain ⟨ys, hy, hm⟩ := hu.raw
 obtain ⟨v', W', h1, h2, h3, -⟩ := append_xs ty hx (hy.below hb) (by rw [ha.1, hm.1]; exact hl) hb.size
 exact ⟨v', W', h1, ⟨_, h2, ha.app hm⟩, hb.grown h3 hb.size (own_row hx)⟩
set_option maxRecDepth 100000
theorem way_nat {agg bound : Int} (h : wayC agg bound = true) : ∃ bd : Nat, bound = (bd : Int) := by
 have h0 : 0 ≤ bound := by
  unfold wayC at h
  split at h
  ·rw [decide_eq_true_eq] at h; omega
  ·rw [decide_eq_true_eq] at h; omega
 exact ⟨bound.toNat, by omega⟩
set_option maxHeartbeats 800000 in
theorem rrows_any (agg bound : Int) (v : Value) (l : List Rw) (w : World) (h : WS w v l) (hw : wayC agg bound = true) (hl : l.length ≤ 100000) (hls : ∀ r ∈ l, r.2.2.length ≤ 100000) :
  Calls Tryz.prog 30 #[.int .i64 agg, .int .i64 bound, v] w (BoolR w (okRows agg bound l)) := by
 have HORD := hidM (fun W (hW : Below w.heap.size w W) => rordered_any v l W (h.below hW) hl)
 have HWAY := hidM hw
 obtain ⟨bd, rfl⟩ := way_nat hw
 obtain ⟨va, vc, rfl, hsh⟩ := h
 by_cases hm : l.length ≤ 1536
 ·have hmi : ¬ (1536 : Int) < (l.length : Int) := by omega
  clear hw
  go_enter Tryz.func30, Tryz.ntmps30
  go_wp2
  go_loopw [7] (fun i wr => ∃ k : Nat, k ≤ l.length ∧ i = .int .i64 k ∧ Hid (∀ r ∈ l.take k, mayC agg bd r.2 = true) ∧ Below w.heap.size w wr) (fun i _ => l.length - (intOf i).toNat)
  case atStart => exact ⟨0, by omega, rfl, hidM (fun r hr => by simp at hr), Below.refl _ _⟩
  case round =>
   rename World => w0
   obtain ⟨k, hk, rfl, HM, hbel⟩ := hrel
   have hsz := hbel.size
   by_cases hlt : k < l.length
   ·obtain ⟨⟨⟨ya, yb⟩, yn, yl⟩, hy⟩ := getSome hlt
    rcases hsh with rfl | ⟨b, off, rfl, hb, hat⟩
    ·simp at hlt
    obtain ⟨c0, c1, c2, s1, p1, c3, n1⟩ := (hat.below hbel hb) k _ hy
    simp only at c0 c1 c2 c3 n1
    have HC := hidM (rcell_any agg bd _ (yn, yl) w0 ⟨s1, p1, rfl, n1⟩ (hls _ (List.mem_of_getElem? hy)))
    have HBEL := hidM hbel
    cases hmc : mayC agg bd (yn, yl) with
    | true =>
     rw [hmc] at HC
     have HM2 := hidM (show ∀ r ∈ l.take (k + 1), mayC agg bd r.2 = true from fun r hr => by
      rw [List.take_add_one, hy] at hr
      rcases List.mem_append.1 hr with hr | hr
      ·exact HM.out r hr
      ·simp at hr; subst hr; exact hmc)
     clear hat hbel hy n1 hmc HM
     go_wp2_with (go_at_call 72; refine HC.out.mono ?_; rintro e W1 ⟨rfl, hb1⟩)
     go_roundw
     case rel => exact ⟨k + 1, by omega, by go_num, HM2, nxt HBEL.out hb1⟩
     case measure => simp [intOf]; omega
    | false =>
     rw [hmc] at HC
     have HF := hidM (okRows_cell (agg := agg) (bound := (bd : Int)) (List.mem_of_getElem? hy) (by rw [Int.toNat_natCast]; exact hmc))
     clear hat hbel hy n1 hmc HM
     go_wp2_with (go_at_call 72; refine HC.out.mono ?_; rintro e W1 ⟨rfl, hb1⟩)
     go_ret
     exact ⟨by rw [HF.out]; rfl, nxt HBEL.out hb1⟩
   ·have hlt' : l.length ≤ k := by omega
    have HMF := HM.out
    rw [List.take_of_length_le hlt'] at HMF
    have HF := hidM (okRows_ord HWAY.out (by rw [Int.toNat_natCast]; exact HMF))
    have HO := hidM (HORD.out w0 hbel)
    have HBEL := hidM hbel
    generalize ordB l = ok at HO HF
    clear hbel HMF HM HORD
    go_wp2_with (go_at_call 73; refine HO.out.mono ?_; rintro e W1 ⟨rfl, hb1⟩)
    go_ret
    exact ⟨by rw [HF.out]; rfl, nxt HBEL.out hb1⟩
 ·have hmi : (1536 : Int) < (l.length : Int) := by omega
  have HF := hidM (okRows_big (agg := agg) (bound := (bd : Int)) hm)
  clear hw
  go_enter Tryz.func30, Tryz.ntmps30
  go_wp2
  go_ret
  exact ⟨by rw [HF.out]; rfl, Below.refl _ _⟩
theorem map_take_snoc {l : List Rw} {k : Nat} {r : Rw} (h : l[k]? = some r) : (l.map (·.1)).take (k + 1) = (l.map (·.1)).take k ++ [r.1] := by
 rw [List.take_add_one, List.getElem?_map, h]
 rfl
set_option maxHeartbeats 800000 in
theorem rdistinct_any (v : Value) (l : List Rw) (w : World) (h : WS w v l) (hl : l.length ≤ 100000) :
  Calls Tryz.prog 119 #[v] w fun e w' => (∃ n : Nat, e = .returned (.int .i64 n) ∧ ∀ J, n = (gat J l).1.length) ∧ Below w.heap.size w w' := by
 obtain ⟨i0, hi, hz0, hz1, hz2⟩ := info_parts Tryz.infoKey
 obtain ⟨va, vc, rfl, hsh⟩ := h
 go_enter Tryz.func119, Tryz.ntmps119
 go_wp2
 go_loopw [3, 4] (fun m i wr => ∃ k : Nat, k ≤ l.length ∧ i = .int .i64 k ∧ OwnK wr w.heap.size m ((l.map (·.1)).take k) ∧ Below w.heap.size w wr) (fun _ i _ => l.length - (intOf i).toNat)
 case atStart => exact ⟨0, by omega, rfl, World.ownsRow_nil _ _ _ _, Below.refl _ _⟩
 case round =>
  rename World => w0
  obtain ⟨k, hk, rfl, hown, hbel⟩ := hrel
  have hsz := hbel.size
  by_cases hlt : k < l.length
  ·obtain ⟨⟨⟨ya, yb⟩, yn, yl⟩, hy⟩ := getSome hlt
   rcases hsh with rfl | ⟨b, off, rfl, hb, hat⟩
   ·simp at hlt
   obtain ⟨c0, c1, -⟩ := (hat.below hbel hb) k _ hy
   simp only at c0 c1
   have hstep := map_take_snoc hy
   have hlk : ((l.map (·.1)).take k).length = k := by simp; omega
   have HBEL := hidM hbel
   clear hy hat hbel
   generalize (l.map (·.1)).take k = ks at hown hstep hlk
   have HOWN := hidM hown
   go_wp2_with (at_builtin; refine wpList_append_own _ rfl _ _ 245 rfl w.heap.size 124 i0 _ 2 24 Tryz.underlying245 hi hz0 hz1 hz2 rfl (by decide) _ _ _ rfl (HOWN.out.alloc _) ⟨w0.heap.size, 0, none⟩ 1 1 [.int .i64 ya, .string yb] rfl rfl (cell_key_new _ _ _ _) (key_cells _ _) ?c3 ?c4 ?c5 ?_)
   case c3 => unfold maxLen; omega
   case c4 => omega
   case c5 => first | omega | (simp; omega)
   intro v2 w2 hown2 hgrow2 _
   have hbel2 : Below w.heap.size w w2 := (HBEL.out.alloc hsz _).grown hgrow2 (by simp; omega) (own_row HOWN.out)
   have hown3 : OwnK w2 w.heap.size v2 ((l.map (·.1)).take (k + 1)) := by rw [hstep]; exact OwnK.snoc (x := (ya, yb)) hown2 hlk.symm
   have HO3 := hidM hown3
   clear hown2 hgrow2 hown hown3 c0 c1
   go_wp2
   go_roundw
   case rel => exact ⟨k + 1, by omega, by go_num, HO3.out, hbel2⟩
   case measure => simp [intOf]; omega
  ·have hlt' : l.length ≤ k := by omega
   rw [List.take_of_length_le (by rw [List.length_map]; exact hlt')] at hown
   have HC := hidM (rcount_any _ _ w0 (KS.own hown) (by rw [List.length_map]; exact hl))
   have HBEL := hidM hbel
   obtain ⟨xa, xc, rfl, -⟩ := KS.own hown
   rw [List.length_map] at HC
   clear hown hbel
   go_wp2_with (go_at_call 156; refine HC.out.mono ?_; rintro e W1 ⟨v1, v2, ks, ms, rfl, hcnt, hok, hon, hb1⟩; obtain ⟨a1, p1, rfl, -⟩ := KS.own hok; obtain ⟨a2, p2, rfl⟩ := hon.shape)
   have HN := hidM hcnt
   clear hcnt
   go_ret
   have hcnt := HN.out
   exact ⟨⟨ks.length, rfl, fun J => keys_len hcnt.1 (fun x => by rw [hcnt.2.1, List.mem_map])⟩, nxt HBEL.out hb1⟩
set_option maxHeartbeats 1600000 in
theorem rjoins_any (agg bound : Int) (v : Value) (L : List (List Rw)) (w : World) (h : RnS w v L) (hL : ∀ l ∈ L, WfRs l) (hl : L.length ≤ 100) (hls : ∀ l ∈ L, l.length ≤ 10000 ∧ ∀ r ∈ l, r.2.2.length ≤ 100000) (hfl : L.flatten.length ≤ 100000) :
  Calls Tryz.prog 71 #[.int .i64 agg, .int .i64 bound, v] w (RowsR w w.heap.size (joinRes agg bound L)) := by
 have H1 := hidM (fun W => way_any agg bound W)
 obtain ⟨va, vc, rfl, hsh⟩ := h
 cases hw : wayC agg bound with
 | false =>
  rw [hw] at H1
  rw [joinRes_way hw]
  go_enter Tryz.func71, Tryz.ntmps71
  go_wp2_with (go_at_call 37; refine (H1.out _).mono ?_; rintro e W1 ⟨rfl, rfl⟩)
  go_ret2
  exact ⟨⟨_, rfl, OwnW.nil _ _⟩, Below.refl _ _⟩
 | true =>
 rw [hw] at H1
 have HWAY := hidM hw
 have HL := hidM hL
 have HLS := hidM hls
 have HFL := hidM hfl
 clear hw hL hls hfl
 go_enter Tryz.func71, Tryz.ntmps71
 go_wp2_with (go_at_call 37; refine (H1.out _).mono ?_; rintro e w ⟨rfl, rfl⟩)
 go_loopw [8, 9] (fun vo i wr => ∃ k : Nat, k ≤ L.length ∧ i = .int .i64 k ∧ Hid (∀ l ∈ L.take k, okRows agg bound l = true) ∧ OwnA w wr vo (L.take k).flatten ∧ Below w.heap.size w wr) (fun _ i _ => L.length - (intOf i).toNat)
 case atStart => exact ⟨0, by omega, rfl, hidM (fun l hl => by simp at hl), OwnA.nil _ _, Below.refl _ _⟩
 case round =>
  rename World => w0
  obtain ⟨k, hk, rfl, HOK, hown, hbel⟩ := hrel
  have hsz := hbel.size
  by_cases hlt : k < L.length
  ·obtain ⟨r, hr⟩ := getSome hlt
   rcases hsh with rfl | ⟨b, off, rfl, hb, hat⟩
   ·simp at hlt
   have hrm := List.mem_of_getElem? hr
   obtain ⟨u, hu0, hws, -⟩ := hat k r hr
   have hu := (hbel.cell (p := ⟨b, off + k, none⟩) hb).trans hu0
   have HC := hidM (rrows_any agg bound u r w0 (hws.below hbel) HWAY.out (by have := (HLS.out r hrm).1; omega) (HLS.out r hrm).2)
   have HBEL := hidM hbel
   have HU := hidM (show ∀ W, Below w.heap.size w W → W.cell? ⟨b, off + k, none⟩ = some u from fun W hW => (hW.cell (p := ⟨b, off + k, none⟩) hb).trans hu0)
   cases hokr : okRows agg bound r with
   | false =>
    rw [hokr] at HC
    have HF := hidM (joinRes_bad (agg := agg) (bound := bound) hrm hokr)
    obtain ⟨ua, uc, rfl, -⟩ := hws
    clear hat hbel hown hokr HOK
    go_wp2_with (go_at_call 30; refine HC.out.mono ?_; rintro e W1 ⟨rfl, hb1⟩)
    go_ret2
    exact ⟨⟨.slice none 0 0, by rw [HF.out]; rfl, by rw [HF.out]; exact OwnW.nil _ _⟩, nxt HBEL.out hb1⟩
   | true =>
    rw [hokr] at HC
    have HRO := hidM (show ∀ l ∈ L.take (k + 1), okRows agg bound l = true from fun l hl => by
     rw [List.take_add_one, hr] at hl
     rcases List.mem_append.1 hl with hl | hl
     ·exact HOK.out l hl
     ·simp at hl; subst hl; exact hokr)
    have hlen : (L.take k).flatten.length + r.length ≤ 1000000 := by
     obtain ⟨m, hm⟩ := flat_take L (k + 1)
     have h1 := HFL.out
     rw [hm, flat_snoc hr, List.length_append, List.length_append] at h1
     omega
    have HT := hidM (show ∀ W, Below w0.heap.size w0 W → ∃ v4 W4, (Builtin.append_ #[61, 61] 61 #[u8, u]).run Tryz.prog W = .ok v4 W4 ∧ OwnA w W4 v4 (L.take (k + 1)).flatten ∧ Below w.heap.size w W4 from fun W hW => by
     obtain ⟨xs, hx, ha⟩ := hown
     obtain ⟨v4, W4, q1, q2, q3⟩ := OwnA.app 61 ⟨xs, hx.below hW, ha⟩ (nxt hbel hW) hws hlen
     rw [← flat_snoc hr] at q2
     exact ⟨v4, W4, q1, q2, q3⟩)
    obtain ⟨ua, uc, rfl, -⟩ := id hws
    clear hat hbel hown hokr HOK hws hlen
    go_wp2_with (first
     | (go_at_call 30; refine HC.out.mono ?_; rintro e W1 ⟨rfl, hb1⟩; obtain ⟨v4, W4, u1, hown4, hbel4⟩ := HT.out W1 hb1; have U1 := hidM u1; have HO4 := hidM hown4; clear u1 hown4; have cu := HU.out W1 (nxt HBEL.out hb1))
     | (at_builtin; refine wpList_append_run _ rfl _ _ _ rfl _ _ v4 W4 rfl rfl U1.out ?_))
    go_roundw
    case rel => exact ⟨k + 1, by omega, by go_num, HRO, HO4.out, hbel4⟩
    case measure => simp [intOf]; omega
  ·have hlt' : L.length ≤ k := by omega
   have HOKL := hidM HOK.out
   rw [List.take_of_length_le hlt'] at hown HOKL
   have HFT := hidM (fun r (hr : r ∈ L.flatten) => List.mem_flatten.1 hr)
   generalize hF : L.flatten = F at hown HFL HFT
   have HFE := hidM hF
   clear hF
   have HD := hidM (rdistinct_any _ _ w0 (hown.ws hbel) HFL.out)
   have HOWN := hidM hown
   have HBEL := hidM hbel
   have HG := hidM (fun W (hW : Below w0.heap.size w0 W) => rgather_any agg bound _ F W ((hown.ws hbel).below hW) ⟨fun r hr => by
    obtain ⟨l, hl, hrl⟩ := HFT.out r hr
    exact (runOk_of (HOKL.out l hl) (HL.out l hl)).cell r hrl⟩ HFL.out)
   obtain ⟨xa, xc, rfl, -⟩ := hown.ws hbel
   clear hown hbel HOK
   go_wp2_with fail
   refine HD.out.mono ?_
   rintro e W1 ⟨⟨n, rfl, hn⟩, hb1⟩
   have hn' := hn (joinC agg bound.toNat)
   clear hn
   by_cases hbig : n ≤ 1536
   ·have hbi : ¬ (1536 : Int) < (n : Int) := by omega
    have HF := hidM (joinRes_ok HWAY.out HOKL.out (by rw [HFE.out]; omega))
    have HG2 := hidM (HG.out W1 hb1)
    have HSZ := hidM hb1.size
    clear hn' HG
    go_wp2_with (go_at_call 98; refine HG2.out.mono ?_; rintro e w' ⟨⟨v', rfl, ho'⟩, hb'⟩)
    go_ret2
    have hsz2 : w.heap.size ≤ W1.heap.size := by have := HSZ.out; omega
    exact ⟨⟨v', by rw [HF.out, HFE.out]; rfl, by rw [HF.out, HFE.out]; exact ho'.lower hsz2⟩, (nxt HBEL.out hb1).trans (hb'.mono hsz2)⟩
   ·have hbi : (1536 : Int) < (n : Int) := by omega
    have HF := hidM (joinRes_big (agg := agg) (bound := bound) (L := L) (k := L.length) (by rw [List.take_length, HFE.out]; omega))
    clear hn' HG
    go_wp2
    go_ret2
    exact ⟨⟨.slice none 0 0, by rw [HF.out]; rfl, by rw [HF.out]; exact OwnW.nil _ _⟩, nxt HBEL.out hb1⟩
set_option maxRecDepth 100000
theorem way_le {agg bound : Int} (h : wayC agg bound = true) : bound.toNat ≤ 32 := by
 unfold wayC at h
 split at h <;> simp at h <;> omega
theorem rowTk_bytes {agg bound : Int} {r : Rw} (hw : wayC agg bound = true) (hk : r.1.2.size ≤ 64) (hg : Good r.1) (hc : OkC agg bound r.2) (y : ByteArray) : rowTk agg bound.toNat (kBytes r.1 ++ (cBytes agg r.2 ++ y)) = (r, ((kBytes r.1).size : Int) + ((cBytes agg r.2).size : Int), 0) := by
 have h1 := kTake_bytes r.1 hk hg.1.1 hg.1.2 (cBytes agg r.2 ++ y)
 have h2 := cTake_bytes agg bound.toNat r.2 y (chk_may hc.1).2 (way_le hw) hc.2.1.1 hc.2.1.2
 have h3 : (cTake agg bound.toNat (from' (kBytes r.1 ++ (cBytes agg r.2 ++ y)) (kTake (kBytes r.1 ++ (cBytes agg r.2 ++ y))).2.1)) = (r.2, ((cBytes agg r.2).size : Int), 0) := by rw [h1, from_app, h2]
 unfold rowTk
 rw [h3, h1, if_neg (by simp), if_neg (by simp)]
theorem rowsTk_to {agg bound : Int} {l : List Rw} (hf : FineR agg bound l) : ∀ k, k ≤ l.length → RdTo agg bound.toNat (rowsBy agg l) (l.take k) (rowsBy agg (l.drop k))
 | 0, _ => RdTo.start _ _ _
 | k + 1, hk => by
  have h := rowsTk_to hf k (by omega)
  obtain ⟨r, hr⟩ := getSome (l := l) (i := k) (by omega)
  obtain ⟨p1, p2, p3⟩ := hf.each (List.mem_of_getElem? hr)
  have hw := (okRows_parts hf.ok).1
  have hd := rowsBy_drop (agg := agg) hr
  have hb := rowTk_bytes hw p1 p3 p2 (rowsBy agg (l.drop (k + 1)))
  rw [← hd] at hb
  have hz := (rowBy_size (agg := agg) (r := r) p1 p2.2.2).1
  unfold rowBy at hz
  rw [ByteArray.size_append] at hz
  have hs : (rowsBy agg (l.drop k)).size ≠ 0 := by rw [hd]; simp only [ByteArray.size_append]; omega
  have hfl := okRows_fol hf.ok hr
  have := (h.step hs (by rw [hb]) (by rw [hb]; exact hfl)).1
  rw [hb] at this
  simp only at this
  have e1 : l.take (k + 1) = l.take k ++ [r] := by rw [List.take_add_one, hr]; rfl
  have e2 : from' (rowsBy agg (l.drop k)) (((kBytes r.1).size : Int) + ((cBytes agg r.2).size : Int)) = rowsBy agg (l.drop (k + 1)) := by
   have := from_app (kBytes r.1 ++ cBytes agg r.2) (rowsBy agg (l.drop (k + 1)))
   rw [ByteArray.append_assoc, ← hd, ByteArray.size_append] at this
   simpa using this
  rw [e1, ← e2]
  exact this
theorem rowsTk_back {agg bound : Int} {l : List Rw} (hf : FineR agg bound l) : rowsTk agg bound.toNat (rowsBy agg l) = (l, 0) := by
 have h := rowsTk_to hf l.length (Nat.le_refl _)
 rw [List.take_length, List.drop_length] at h
 exact h.fin rfl
set_option maxRecDepth 100000
end Go.Proofs.YtclcgakfmcofaaaGreatDoor
