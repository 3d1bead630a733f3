/- Texts laid together: WKCount, WNs, WRJn, WRunsEq, WWipe, LawWJ, WMay. -/
import Derived.Test.YtaagllbcmgnbnaaGreatDoorMA48
import Derived.Test.YtaagllbcmgnbnaaGreatDoorMA7
import Derived.Test.YtaagllbcmgnbnaaGreatDoorMA13
import Derived.Test.YtaagllbcmgnbnaaGreatDoorMA47
import Derived.Test.YtaagllbcmgnbnaaGreatDoorMA39
import Derived.Test.YtaagllbcmgnbnaaGreatDoorMA27
import Derived.Test.YtaagllbcmgnbnaaGreatDoorMA36
import Derived.Deep.CutBlock
import Derived.Test.YtaagllbcmgnbnaaGreatDoorMA26
/- The page's own Count. -/
namespace Go.Proofs.YtaagllbcmgnbnaaGreatDoor
open Go.RowKit Go.Deep
set_option linter.unusedVariables false
set_option maxRecDepth 100000

theorem OwnN.base {w : World} {base base' : Nat} {v : Value} {l : List Int} (h : OwnN w base v l) (hb : base' ≤ base) : OwnN w base' v l := by
  refine ⟨h.1, ?_⟩
  rcases h.2 with ⟨h1, h2⟩ | ⟨g, cap, cur, h1, h2, h3⟩
  · exact .inl ⟨h1, h2⟩
  · exact .inr ⟨g, cap, cur, h1, Nat.le_trans hb h2, h3⟩
/-- A row of keys and a row of numbers are two. -/
theorem rows_apart {w : World} {base base' : Nat} {v u : Value} {ks : List Ky} {ms : List Int} (h : OwnK w base v ks) (h' : OwnN w base' u ms) : v.ownBlock = none ∨ v.ownBlock ≠ u.ownBlock := by
  rcases h.2 with ⟨rfl, _⟩ | ⟨g, cap, cur, rfl, _, hb, _⟩
  · exact .inl rfl
  right
  rcases h'.2 with ⟨rfl, _⟩ | ⟨g', cap', cur', rfl, _, hb', _⟩
  · simp [Value.ownBlock]
  · intro e
    have e' : g = g' := by simpa [Value.ownBlock] using e
    subst e'
    rw [hb] at hb'
    injection hb' with hb'
    injection hb' with _ hb' _
    revert hb'
    decide
theorem apart_symm {a b : Option Nat} (h : a = none ∨ a ≠ b) : b = none ∨ b ≠ a := by
  rcases h with h | h
  · subst h; cases b
    · exact .inl rfl
    · exact .inr (by simp)
  · exact .inr (Ne.symm h)
/-- The last number is written anew. -/
theorem OwnN.set {w : World} {base g cap : Nat} {ms : List Int} {m x : Int} (h : OwnN w base (.slice (some ⟨g, 0, none⟩) (ms.length + 1) cap) (ms ++ [m])) :
    OwnN (w.setCell ⟨g, ms.length, none⟩ (.int .i64 x)) base (.slice (some ⟨g, 0, none⟩) (ms.length + 1) cap) (ms ++ [x]) := by
  rcases h.2 with ⟨h0, _⟩ | ⟨g', cap', cur, hv, hg, hb, h1, h2, h3, h4⟩
  · cases h0
  obtain ⟨rfl, rfl⟩ : g = g' ∧ cap = cap' := by simpa using hv
  refine ⟨by simp, .inr ⟨g, cap, cur.setIfInBounds ms.length (.int .i64 x), by simp, hg, ?_, by simpa using h1, h2, by simpa using h3, ?_⟩⟩
  · simp only [World.setCell, Array.getElem?_modify, hb]
    simp
  · simp only [List.length_append, List.length_cons, List.length_nil, Nat.mul_one] at h1 h3 h4 ⊢
    rw [Array.toList_setIfInBounds, List.take_set, h4, List.map_append, List.map_append]
    simp
theorem OwnN.last {w : World} {base g cap : Nat} {ms : List Int} {m : Int} (h : OwnN w base (.slice (some ⟨g, 0, none⟩) (ms.length + 1) cap) (ms ++ [m])) :
    w.cell? ⟨g, ms.length, none⟩ = some (.int .i64 m) ∧ w.frozen? ⟨g, ms.length, none⟩ = false := by
  rcases h.2 with ⟨h0, _⟩ | ⟨g', cap', cur, hv, hg, hb, h1, h2, h3, h4⟩
  · cases h0
  obtain ⟨rfl, rfl⟩ : g = g' ∧ cap = cap' := by simpa using hv
  have h0 : ((ms ++ [m]).map (Value.int .i64))[ms.length]? = some (.int .i64 m) := by simp
  simp only [List.length_append, List.length_cons, List.length_nil, Nat.mul_one] at h4
  rw [← h4, List.getElem?_take_of_lt (by simp)] at h0
  exact ⟨by simp only [World.cell?, hb]; simpa using h0, by simp [World.frozen?, hb]⟩

theorem run_new {s : List Ky} (hs : s.Pairwise (fun x y => ltK y x = false)) {p : Nat} {y z : Ky} (hz : s[p]? = some z) (hy : s[p + 1]? = some y) (hne : y ≠ z) : ∀ x ∈ s.take (p + 1), ltK x y = true := by
  have e1 : s.take (p + 1) = s.take p ++ [z] := by rw [List.take_add_one, hz]; rfl
  have e2 : s.take (p + 1 + 1) = s.take p ++ [z] ++ [y] := by rw [List.take_add_one, hy, e1]; rfl
  have h2 := hs
  rw [← List.take_append_drop (p + 1 + 1) s, List.pairwise_append, e2, List.pairwise_append, List.pairwise_append] at h2
  obtain ⟨⟨⟨_, _, h3⟩, _, h4⟩, _⟩ := h2
  have hzy : ltK z y = true := by
    have h5 := h4 z (by simp) y (by simp)
    cases h6 : ltK z y
    · exact absurd (ltK_total h5 h6) hne
    · rfl
  rw [e1]
  intro x hx
  rcases List.mem_append.1 hx with hx | hx
  · exact le_ltK (h3 x hx z (by simp)) hzy
  · rw [List.mem_singleton] at hx; subst hx; exact hzy
/-- How the counts stand behind k keys of s. -/
def Runs (s : List Ky) (k : Nat) (ks : List Ky) (ms : List Int) : Prop :=
  Cnt (s.take k) ks ms ∧ ∀ p z, k = p + 1 → s[p]? = some z → ∃ ks' ms' m, ks = ks' ++ [z] ∧ ms = ms' ++ [m]
theorem Runs.start (s : List Ky) : Runs s 0 [] [] := ⟨Cnt.nil, fun p z h => by omega⟩
theorem Runs.new {s : List Ky} {k : Nat} {ks : List Ky} {ms : List Int} {y : Ky} (h : Runs s k ks ms) (hy : s[k]? = some y) (hx : ∀ x ∈ s.take k, ltK x y = true) : Runs s (k + 1) (ks ++ [y]) (ms ++ [1]) := by
  refine ⟨?_, fun p z hp hz => ?_⟩
  · have e : s.take (k + 1) = s.take k ++ [y] := by rw [List.take_add_one, hy]; rfl
    rw [e]
    exact h.1.new hx
  · obtain rfl : k = p := by omega
    rw [hy] at hz
    injection hz with hz
    subst hz
    exact ⟨ks, ms, 1, rfl, rfl⟩
theorem Runs.more {s : List Ky} {p : Nat} {ks : List Ky} {ms : List Int} {m : Int} {y : Ky} (h : Runs s (p + 1) (ks ++ [y]) (ms ++ [m])) (hy : s[p + 1]? = some y) : Runs s (p + 1 + 1) (ks ++ [y]) (ms ++ [m + 1]) := by
  refine ⟨?_, fun q z hp hz => ?_⟩
  · have e : s.take (p + 1 + 1) = s.take (p + 1) ++ [y] := by rw [List.take_add_one, hy]; rfl
    rw [e]
    exact h.1.more
  · obtain rfl : q = p + 1 := by omega
    rw [hy] at hz
    injection hz with hz
    subst hz
    exact ⟨ks, ms, m + 1, rfl, rfl⟩
theorem Runs.bound {s : List Ky} {k : Nat} {ks : List Ky} {ms : List Int} {m : Int} (h : Runs s k ks (ms ++ [m])) : 0 ≤ m ∧ m ≤ s.length := by
  have e := h.1.2.2
  have hm : m ∈ ks.map fun x => (cnt (s.take k) x : Int) := by rw [← e]; simp
  obtain ⟨x, _, rfl⟩ := List.mem_map.1 hm
  have := cnt_le (s.take k) x
  simp at this ⊢
  omega
theorem Runs.len {s : List Ky} {k : Nat} {ks : List Ky} {ms : List Int} (h : Runs s k ks ms) : ks.length ≤ s.length ∧ ms.length = ks.length := by
  have h1 := h.1.le
  have h2 := h.1.length
  simp at h1
  exact ⟨by omega, h2⟩

/-- What Count leaves. -/
def CountPost (l : List Ky) (w : World) (e : Ending) (w' : World) : Prop :=
  ∃ v1 v2 ks ms, e = .returned (.tuple #[v1, v2]) ∧ Cnt l ks ms ∧ OwnK w' w.heap.size v1 ks ∧ OwnN w' w.heap.size v2 ms ∧ Below w.heap.size w w'

set_option maxRecDepth 100000 in
set_option maxHeartbeats 1600000 in
theorem rcount_any (v : Value) (l : List Ky) (w : World) (h : KS w v l) (hl : l.length ≤ 100000) :
    Calls Tryz.prog 57 #[v] w fun e w' => CountPost l w e w' := by
  obtain ⟨i0, hi, hz0, hz1, hz2⟩ := info_parts Tryz.infoKey
  obtain ⟨i1, hj, hy0, hy1, hy2⟩ := info_parts Tryz.info3
  have hsort := rsort_any v l w h hl
  clear h
  go_enter Tryz.func57, Tryz.ntmps57
  go_wp2_with fail
  refine hsort.mono ?_
  rintro e w1 ⟨va, s, rfl, hS, hva, hbel1⟩
  have hsl : s.length = l.length := hS.1.length_eq
  have hsz1 := hbel1.size
  have hfin : ∀ {k ks ms}, Runs s k ks ms → s.length ≤ k → Cnt l ks ms := fun hR hk => by
    have := hR.1
    rw [List.take_of_length_le hk] at this
    exact this.perm hS.1
  by_cases hs0 : s = []
  · subst hs0
    obtain ⟨aa, ca, rfl⟩ : ∃ aa ca, va = .slice aa 0 ca := by
      rcases hva.2 with ⟨rfl, _⟩ | ⟨g, cap, cur, rfl, _⟩
      · exact ⟨_, _, rfl⟩
      · exact ⟨_, _, rfl⟩
    go_wp2
    go_loop [4, 5, 7] (fun a b i => a = .slice none 0 0 ∧ b = .slice none 0 0 ∧ i = .int .i64 0) (fun _ _ _ => 0)
    case atStart => exact ⟨rfl, rfl, rfl⟩
    case round =>
      obtain ⟨rfl, rfl, rfl⟩ := hrel
      go_wp2
      go_ret2
      exact ⟨_, _, [], [], rfl, hfin (Runs.start []) (by simp), World.ownsRow_nil _ _ _ _, World.ownsRow_nil _ _ _ _, hbel1⟩
  · rcases hva.2 with ⟨_, h0⟩ | ⟨g, cp, cur, hv, hg, hgb, hn1, hn2, hn3, hn4⟩
    · exact absurd (List.length_eq_zero_iff.1 h0) hs0
    have hgl : g < w1.heap.size := (Array.getElem?_eq_some_iff.1 hgb).1
    have hka : KeysAt w1 g 0 s := keysAt_of_block hgb hn4
    subst hv
    clear hva hgb hn1 hn2 hn3 hn4 hs0
    go_wp2
    go_loopw [4, 5, 7] (fun a b i wr => ∃ (k : Nat) (ks : List Ky) (ms : List Int), k ≤ s.length ∧ i = .int .i64 k ∧ Runs s k ks ms ∧ OwnK wr w1.heap.size a ks ∧ OwnN wr w1.heap.size b ms ∧ Below w1.heap.size w1 wr) (fun _ _ i _ => s.length - (intOf i).toNat)
    case atStart => exact ⟨0, [], [], by omega, rfl, Runs.start _, World.ownsRow_nil _ _ _ _, World.ownsRow_nil _ _ _ _, Below.refl _ _⟩
    case round =>
      rename World => w0
      obtain ⟨k, ks, ms, hk, rfl, hR, hok, hon, hbr⟩ := hrel
      have hsz0 := hbr.size
      by_cases hlt : k < s.length
      · obtain ⟨⟨ya, yb⟩, hy⟩ := getSome hlt
        obtain ⟨c0, c1⟩ := hka.below hbr hgl k _ hy
        rw [Nat.zero_add] at c0 c1
        simp only at c0 c1
        have hgd := guardK
        obtain ⟨hkl, hml⟩ := hR.len
        by_cases hk0 : k = 0
        · have hd : decide ((0 : Int) < (k : Int)) = false := by simp; omega
          have hd2 : decide (0 < k) = false := by simp; omega
          have HNEW : Hid (Runs s (k + 1) (ks ++ [(ya, yb)]) (ms ++ [1])) := hR.new hy (by rw [hk0]; simp)
          clear hR hk0 hfin
          go_wp2
          go_quiet (fail)
          have hbr1 : Below w1.heap.size w1 (w0.drewN nq) := ⟨hbr.os, hbr.tape, hbr.output, hbr.size, hbr.block⟩
          have hok1 : OwnK (w0.drewN nq) w1.heap.size _ ks := hok
          have hon1 : OwnN (w0.drewN nq) w1.heap.size _ ms := hon
          have c2 : (w0.drewN nq).cell? ⟨g, k * 2, none⟩ = some (.int .i64 ya) := c0
          have c3 : (w0.drewN nq).cell? ⟨g, k * 2 + 1, none⟩ = some (.string yb) := c1
          clear hbr hok hon c0 c1
          generalize w0.drewN nq = w2 at hbr1 hok1 hon1 c2 c3 ⊢
          have hsz2 := hbr1.size
          go_wp2_with (at_builtin; refine wpList_append_own _ rfl _ _ 107 rfl w1.heap.size 66 i0 _ 2 24 Tryz.underlying107 hi hz0 hz1 hz2 rfl (by decide) _ _ _ rfl (hok1.alloc _) ⟨w2.heap.size, 0, none⟩ 1 1 [.int .i64 ya, .string yb] rfl rfl (cell_key_new _ _ _ _) (key_cells _ _) ?c3 ?c4 ?c5 ?_)
          case c3 => unfold maxLen; omega
          case c4 => omega
          case c5 => first | omega | (simp; omega)
          intro v3 w3 hown3 hgrow3 _
          have hok3 : OwnK w3 w1.heap.size v3 (ks ++ [(ya, yb)]) := OwnK.snoc (x := (ya, yb)) hown3 rfl
          have hon3 : OwnN w3 w1.heap.size _ ms := (hon1.alloc _).kept hgrow3 (apart_symm (rows_apart hok1 hon1))
          have hbr3 : Below w1.heap.size w1 w3 := (hbr1.alloc hsz2 _).grown hgrow3 (by simp; omega) (own_row hok1)
          clear hown3 hgrow3 hok1 hon1 hbr1 c2 c3 hsz2
          have hsz3 := hbr3.size
          go_wp2_with (at_builtin; refine wpList_append_own _ rfl _ _ 49 rfl w1.heap.size 3 i1 _ 1 8 Tryz.underlying49 hj hy0 hy1 hy2 rfl (by decide) _ _ _ rfl (hon3.alloc _) ⟨w3.heap.size, 0, none⟩ 1 1 [.int .i64 1] rfl rfl (cell_one_new _ _ _) (ints_oneCell .i64 [1]) ?c3 ?c4 ?c5 ?_)
          case c3 => unfold maxLen; omega
          case c4 => omega
          case c5 => first | omega | (simp; omega)
          intro v4 w4 hown4 hgrow4 _
          have hon4 : OwnN w4 w1.heap.size v4 (ms ++ [1]) := OwnN.snoc hown4 (by first | rfl | omega)
          have hok4 : OwnK w4 w1.heap.size v3 (ks ++ [(ya, yb)]) := (hok3.alloc _).kept hgrow4 (rows_apart hok3 hon3)
          have hbr4 : Below w1.heap.size w1 w4 := (hbr3.alloc hsz3 _).grown hgrow4 (by simp; omega) (own_row hon3)
          clear hown4 hgrow4 hok3 hon3 hbr3 hsz3
          go_wp2
          go_roundw
          case rel => exact ⟨k + 1, _, _, by omega, by go_num, HNEW.out, hok4, hon4, hbr4⟩
          case measure => simp [intOf]; omega
        · obtain ⟨p, rfl⟩ : ∃ p, k = p + 1 := ⟨k - 1, by omega⟩
          obtain ⟨⟨za, zb⟩, hz⟩ := getSome (l := s) (i := p) (by omega)
          obtain ⟨d0, d1⟩ := hka.below hbr hgl p _ hz
          rw [Nat.zero_add] at d0 d1
          simp only at d0 d1
          have hwp : IntKind.i64.wrap (p : Int) = p := wrapN p (by omega)
          have hp0 : (0 : Int) ≤ p := by omega
          have hps : (p : Int) < s.length := by omega
          have hk1 : (0 : Int) ≤ ((p + 1 : Nat) : Int) := by omega
          have hks : ((p + 1 : Nat) : Int) < s.length := by omega
          have hd : decide ((0 : Int) < ((p + 1 : Nat) : Int)) = true := by simp
          have heq := eqK ya za yb zb
          by_cases he : (ya, yb) = (za, zb)
          · cases he
            rw [eqB_self] at heq
            obtain ⟨ks', ms', m, rfl, rfl⟩ := hR.2 p _ rfl hz
            obtain ⟨hm0, hm1⟩ := hR.bound
            have HNEW : Hid (Runs s (p + 1 + 1) (ks' ++ [(ya, yb)]) (ms' ++ [m + 1])) := hR.more hy
            have hlm : ms'.length + 1 ≤ 100001 := by simp at hml hkl; omega
            rcases hon.2 with ⟨_, h0⟩ | ⟨gm, capm, cur2, hvm, hgm, _⟩
            · simp at h0
            rw [show (ms' ++ [m]).length = ms'.length + 1 by simp] at hvm
            subst hvm
            clear hR hfin hkl hml
            go_wp2
            go_quiet (fail)
            have hbr1 : Below w1.heap.size w1 (w0.drewN nq) := ⟨hbr.os, hbr.tape, hbr.output, hbr.size, hbr.block⟩
            have hok1 : OwnK (w0.drewN nq) w1.heap.size _ (ks' ++ [(ya, yb)]) := hok
            have hon1 : OwnN (w0.drewN nq) w1.heap.size _ (ms' ++ [m]) := hon
            clear hbr hok hon c0 c1 d0 d1
            generalize w0.drewN nq = w2 at hbr1 hok1 hon1 ⊢
            obtain ⟨m0, m1⟩ := OwnN.last hon1
            have hset := OwnN.set (x := m + 1) hon1
            have hok2 := hok1.kept (grownBy_set w2 gm ms'.length (.int .i64 (m + 1))) (rows_apart hok1 hon1)
            have hbr2 : Below w1.heap.size w1 (w2.setCell ⟨gm, ms'.length, none⟩ (.int .i64 (m + 1))) := hbr1.setCell hgm _
            clear hbr1 hok1 hon1
            go_wp2
            go_roundw
            case rel => exact ⟨p + 1 + 1, _, _, by omega, by go_num, HNEW.out, hok2, hset, hbr2⟩
            case measure => simp [intOf]; omega
          · have he' : eqB (ya, yb) (za, zb) = false := by simpa [eqB] using he
            rw [he'] at heq
            have HNEW : Hid (Runs s (p + 1 + 1) (ks ++ [(ya, yb)]) (ms ++ [1])) := hR.new hy (run_new hS.2 hz hy he)
            clear hR hfin he he'
            go_wp2
            go_quiet (fail)
            have hbr1 : Below w1.heap.size w1 (w0.drewN nq) := ⟨hbr.os, hbr.tape, hbr.output, hbr.size, hbr.block⟩
            have hok1 : OwnK (w0.drewN nq) w1.heap.size _ ks := hok
            have hon1 : OwnN (w0.drewN nq) w1.heap.size _ ms := hon
            have c2 : (w0.drewN nq).cell? ⟨g, (p + 1) * 2, none⟩ = some (.int .i64 ya) := c0
            have c3 : (w0.drewN nq).cell? ⟨g, (p + 1) * 2 + 1, none⟩ = some (.string yb) := c1
            clear hbr hok hon c0 c1
            generalize w0.drewN nq = w2 at hbr1 hok1 hon1 c2 c3 ⊢
            have hsz2 := hbr1.size
            go_wp2_with (at_builtin; refine wpList_append_own _ rfl _ _ 107 rfl w1.heap.size 66 i0 _ 2 24 Tryz.underlying107 hi hz0 hz1 hz2 rfl (by decide) _ _ _ rfl (hok1.alloc _) ⟨w2.heap.size, 0, none⟩ 1 1 [.int .i64 ya, .string yb] rfl rfl (cell_key_new _ _ _ _) (key_cells _ _) ?c3 ?c4 ?c5 ?_)
            case c3 => unfold maxLen; omega
            case c4 => omega
            case c5 => first | omega | (simp; omega)
            intro v3 w3 hown3 hgrow3 _
            have hok3 : OwnK w3 w1.heap.size v3 (ks ++ [(ya, yb)]) := OwnK.snoc (x := (ya, yb)) hown3 rfl
            have hon3 : OwnN w3 w1.heap.size _ ms := (hon1.alloc _).kept hgrow3 (apart_symm (rows_apart hok1 hon1))
            have hbr3 : Below w1.heap.size w1 w3 := (hbr1.alloc hsz2 _).grown hgrow3 (by simp; omega) (own_row hok1)
            clear hown3 hgrow3 hok1 hon1 hbr1 c2 c3 hsz2
            have hsz3 := hbr3.size
            go_wp2_with (at_builtin; refine wpList_append_own _ rfl _ _ 49 rfl w1.heap.size 3 i1 _ 1 8 Tryz.underlying49 hj hy0 hy1 hy2 rfl (by decide) _ _ _ rfl (hon3.alloc _) ⟨w3.heap.size, 0, none⟩ 1 1 [.int .i64 1] rfl rfl (cell_one_new _ _ _) (ints_oneCell .i64 [1]) ?c3 ?c4 ?c5 ?_)
            case c3 => unfold maxLen; omega
            case c4 => omega
            case c5 => first | omega | (simp; omega)
            intro v4 w4 hown4 hgrow4 _
            have hon4 : OwnN w4 w1.heap.size v4 (ms ++ [1]) := OwnN.snoc hown4 (by first | rfl | omega)
            have hok4 : OwnK w4 w1.heap.size v3 (ks ++ [(ya, yb)]) := (hok3.alloc _).kept hgrow4 (rows_apart hok3 hon3)
            have hbr4 : Below w1.heap.size w1 w4 := (hbr3.alloc hsz3 _).grown hgrow4 (by simp; omega) (own_row hon3)
            clear hown4 hgrow4 hok3 hon3 hbr3 hsz3
            go_wp2
            go_roundw
            case rel => exact ⟨p + 1 + 1, _, _, by omega, by go_num, HNEW.out, hok4, hon4, hbr4⟩
            case measure => simp [intOf]; omega
      · have hlt' : s.length ≤ k := by omega
        go_wp2
        go_ret2
        exact ⟨_, _, ks, ms, rfl, hfin hR hlt', hok.base hsz1, hon.base hsz1, hbel1.trans (hbr.mono hsz1)⟩
end Go.Proofs.YtaagllbcmgnbnaaGreatDoor
/- Rows that lie anywhere, appended to rows of one's own. -/
namespace Go.Proofs.YtaagllbcmgnbnaaGreatDoor
open Go.RowKit
set_option linter.unusedVariables false
set_option maxRecDepth 100000

/-- One by one, read in the world w. -/
def AllN (w : World) (xs : List Raw) (l : List Rw) : Prop := xs.length = l.length ∧ ∀ (i : Nat) (x : Raw) (r : Rw), xs[i]? = some x → l[i]? = some r → x.1 = r.1 ∧ x.2.1 = r.2.1 ∧ x.2.2.2.1 = r.2.2.length ∧ NS w (slV x.2.2) r.2.2
theorem AllN.nil (w : World) : AllN w [] [] := ⟨rfl, fun i x r h => by simp at h⟩
theorem AllN.one {w : World} {k : Ky} {n : Int} {l : List Int} {s : Option Addr} {p : Nat} (h : NS w (.slice s l.length p) l) : AllN w [(k, n, (s, l.length, p))] [(k, (n, l))] := ⟨rfl, fun i x r h1 h2 => by
  match i, h1, h2 with
  | 0, h1, h2 => simp at h1 h2; subst h1 h2; exact ⟨rfl, rfl, rfl, h⟩⟩
theorem AllN.app {w : World} {xs ys : List Raw} {l m : List Rw} (h : AllN w xs l) (k : AllN w ys m) : AllN w (xs ++ ys) (l ++ m) := by
  refine ⟨by simp [h.1, k.1], fun i y s h1 h2 => ?_⟩
  by_cases hi : i < xs.length
  · rw [List.getElem?_append_left hi] at h1
    rw [List.getElem?_append_left (h.1 ▸ hi)] at h2
    exact h.2 i y s h1 h2
  · rw [List.getElem?_append_right (by omega)] at h1
    rw [List.getElem?_append_right (by have := h.1; omega), ← h.1] at h2
    exact k.2 _ y s h1 h2
/-- How they lie. -/
theorem WS.raw {w : World} {v : Value} {l : List Rw} (h : WS w v l) : ∃ ys, XS w v ys ∧ AllN w ys l := by
  obtain ⟨a, cap, rfl, h⟩ := h
  rcases h with rfl | ⟨b, off, rfl, hb, hat⟩
  · exact ⟨[], ⟨a, cap, rfl, .inl rfl⟩, AllN.nil _⟩
  · have key : ∀ k, k ≤ l.length → ∃ ys : List Raw, ys.length = k ∧ AllN w ys (l.take k) ∧ ∀ (j : Nat) (u : Value), (flatW ys)[j]? = some u → w.cell? ⟨b, off + j, none⟩ = some u := by
      intro k
      induction k with
      | zero => intro _; exact ⟨[], rfl, by simpa using AllN.nil w, fun j u h => by simp at h⟩
      | succ k ih =>
        intro hk
        obtain ⟨ys, e1, e2, e3⟩ := ih (by omega)
        obtain ⟨⟨⟨ya, yb⟩, yn, yl⟩, hy⟩ := getSome (l := l) (i := k) (by omega)
        obtain ⟨c0, c1, c2, s1, p1, c3, n1⟩ := hat k _ hy
        simp only at c0 c1 c2 c3 n1
        refine ⟨ys ++ [((ya, yb), yn, (s1, yl.length, p1))], by simp [e1], ?_, fun j u hj => ?_⟩
        · rw [List.take_add_one, hy]
          exact e2.app (AllN.one n1)
        · have hfl := flatW_len ys
          rw [flatW_app, flatW_one] at hj
          by_cases hlt : j < (flatW ys).length
          · rw [List.getElem?_append_left hlt] at hj
            exact e3 j u hj
          · rw [List.getElem?_append_right (by omega)] at hj
            obtain ⟨d, rfl⟩ : ∃ d, j = k * 4 + d := ⟨j - k * 4, by omega⟩
            rw [show k * 4 + d - (flatW ys).length = d by omega] at hj
            rw [← Nat.add_assoc]
            match d, hj with
            | 0, hj => simp at hj; subst hj; exact c0
            | 1, hj => simp at hj; subst hj; exact c1
            | 2, hj => simp at hj; subst hj; exact c2
            | 3, hj => simp at hj; subst hj; exact c3
            | d + 4, hj => simp at hj
    obtain ⟨ys, e1, e2, e3⟩ := key l.length (Nat.le_refl _)
    rw [List.take_length] at e2
    exact ⟨ys, ⟨_, cap, by rw [e1], .inr ⟨b, off, rfl, hb, e3⟩⟩, e2⟩
/-- Rows of the call's own, whose sets lie where they lay when it began. -/
def OwnA (w0 w : World) (v : Value) (l : List Rw) : Prop := ∃ xs, OwnX w w0.heap.size v xs ∧ AllN w0 xs l
theorem OwnA.nil (w0 w : World) : OwnA w0 w (.slice none 0 0) [] := ⟨[], World.ownsRow_nil _ _ _ _, AllN.nil _⟩
theorem OwnA.ws {w0 w : World} {v : Value} {l : List Rw} (h : OwnA w0 w v l) (hb : Below w0.heap.size w0 w) : WS w v l := by
  obtain ⟨xs, hx, ha⟩ := h
  have hx0 := hx
  rcases hx.2 with ⟨rfl, h0⟩ | ⟨g, cap, cur, rfl, _, _⟩
  · have : xs = [] := List.length_eq_zero_iff.1 h0
    subst this
    have : l = [] := List.length_eq_zero_iff.1 ha.1.symm
    subst this
    exact ⟨none, 0, rfl, .inl rfl⟩
  · obtain ⟨h1, -, -, h2⟩ := hx0.cell
    refine ⟨_, cap, by rw [ha.1], .inr ⟨g, 0, rfl, h1, fun i r hr => ?_⟩⟩
    have hi : i < l.length := (List.getElem?_eq_some_iff.1 hr).1
    obtain ⟨x, hx'⟩ := getSome (l := xs) (i := i) (by rw [ha.1]; exact hi)
    obtain ⟨q0, q1, q2, q3⟩ := flatW_get xs i x hx'
    obtain ⟨ek, en, el, es⟩ := ha.2 i x r hx' hr
    obtain ⟨xk, xn, xa, xl, xc⟩ := x
    simp only at ek en el es q0 q1 q2 q3
    subst ek en el
    refine ⟨?_, ?_, ?_, xa, xc, ?_, es.below hb⟩
    · rw [Nat.zero_add]; exact h2 _ _ q0
    · rw [Nat.zero_add]; exact h2 _ _ q1
    · rw [Nat.zero_add]; exact h2 _ _ q2
    · rw [Nat.zero_add]; exact h2 _ _ q3
theorem OwnA.app {w0 w : World} {v u : Value} {l m : List Rw} (ty : TypeId) (h : OwnA w0 w v l) (hb : Below w0.heap.size w0 w) (hu : WS w0 u m) (hl : l.length + m.length ≤ 1000000) :
    ∃ v' W', (Builtin.append_ #[37, 37] ty #[v, u]).run Tryz.prog w = .ok v' W' ∧ OwnA w0 W' v' (l ++ m) ∧ Below w0.heap.size w0 W' := by
  obtain ⟨xs, hx, ha⟩ := h
  obtain ⟨ys, hy, hm⟩ := hu.raw
  obtain ⟨v', W', h1, h2, h3, -⟩ := append_xs ty hx (hy.below hb) (by rw [ha.1, hm.1]; exact hl) hb.size
  exact ⟨v', W', h1, ⟨_, h2, ha.app hm⟩, hb.grown h3 hb.size (own_row hx)⟩
end Go.Proofs.YtaagllbcmgnbnaaGreatDoor
/- The page's own Rows, distinct, JoinRows. -/
namespace Go.Proofs.YtaagllbcmgnbnaaGreatDoor
open Go.RowKit
set_option linter.unusedVariables false
set_option maxRecDepth 100000

theorem way_nat {agg bound : Int} (h : wayC agg bound = true) : ∃ bd : Nat, bound = (bd : Int) := by
  have h0 : 0 ≤ bound := by
    unfold wayC at h
    split at h
    · rw [decide_eq_true_eq] at h; omega
    · rw [decide_eq_true_eq] at h; omega
  exact ⟨bound.toNat, by omega⟩
set_option maxHeartbeats 800000 in
theorem rrows_any (agg bound : Int) (v : Value) (l : List Rw) (w : World) (h : WS w v l) (hw : wayC agg bound = true) (hl : l.length ≤ 100000) (hls : ∀ r ∈ l, r.2.2.length ≤ 100000) :
    Calls Tryz.prog 35 #[.int .i64 agg, .int .i64 bound, v] w (BoolR w (okRows agg bound l)) := by
  have HORD := hidM (fun W (hW : Below w.heap.size w W) => rordered_any v l W (h.below hW) hl)
  have HWAY := hidM hw
  obtain ⟨bd, rfl⟩ := way_nat hw
  obtain ⟨va, vc, rfl, hsh⟩ := h
  by_cases hm : l.length ≤ 1536
  · have hmi : ¬ (1536 : Int) < (l.length : Int) := by omega
    clear hw
    go_enter Tryz.func35, Tryz.ntmps35
    go_wp2
    go_loopw [7] (fun i wr => ∃ k : Nat, k ≤ l.length ∧ i = .int .i64 k ∧ Hid (∀ r ∈ l.take k, mayC agg bd r.2 = true) ∧ Below w.heap.size w wr) (fun i _ => l.length - (intOf i).toNat)
    case atStart => exact ⟨0, by omega, rfl, hidM (fun r hr => by simp at hr), Below.refl _ _⟩
    case round =>
      rename World => w0
      obtain ⟨k, hk, rfl, HM, hbel⟩ := hrel
      have hsz := hbel.size
      by_cases hlt : k < l.length
      · obtain ⟨⟨⟨ya, yb⟩, yn, yl⟩, hy⟩ := getSome hlt
        rcases hsh with rfl | ⟨b, off, rfl, hb, hat⟩
        · simp at hlt
        obtain ⟨c0, c1, c2, s1, p1, c3, n1⟩ := (hat.below hbel hb) k _ hy
        simp only at c0 c1 c2 c3 n1
        have HC := hidM (rcell_any agg bd _ (yn, yl) w0 ⟨s1, p1, rfl, n1⟩ (hls _ (List.mem_of_getElem? hy)))
        have HBEL := hidM hbel
        cases hmc : mayC agg bd (yn, yl) with
        | true =>
          rw [hmc] at HC
          have HM2 := hidM (show ∀ r ∈ l.take (k + 1), mayC agg bd r.2 = true from fun r hr => by
            rw [List.take_add_one, hy] at hr
            rcases List.mem_append.1 hr with hr | hr
            · exact HM.out r hr
            · simp at hr; subst hr; exact hmc)
          clear hat hbel hy n1 hmc HM
          go_wp2_with (go_at_call 55; refine HC.out.mono ?_; rintro e W1 ⟨rfl, hb1⟩)
          go_roundw
          case rel => exact ⟨k + 1, by omega, by go_num, HM2, nxt HBEL.out hb1⟩
          case measure => simp [intOf]; omega
        | false =>
          rw [hmc] at HC
          have HF := hidM (okRows_cell (agg := agg) (bound := (bd : Int)) (List.mem_of_getElem? hy) (by rw [Int.toNat_natCast]; exact hmc))
          clear hat hbel hy n1 hmc HM
          go_wp2_with (go_at_call 55; refine HC.out.mono ?_; rintro e W1 ⟨rfl, hb1⟩)
          go_ret
          exact ⟨by rw [HF.out]; rfl, nxt HBEL.out hb1⟩
      · have hlt' : l.length ≤ k := by omega
        have HMF := HM.out
        rw [List.take_of_length_le hlt'] at HMF
        have HF := hidM (okRows_ord HWAY.out (by rw [Int.toNat_natCast]; exact HMF))
        have HO := hidM (HORD.out w0 hbel)
        have HBEL := hidM hbel
        generalize ordB l = ok at HO HF
        clear hbel HMF HM HORD
        go_wp2_with (go_at_call 56; refine HO.out.mono ?_; rintro e W1 ⟨rfl, hb1⟩)
        go_ret
        exact ⟨by rw [HF.out]; rfl, nxt HBEL.out hb1⟩
  · have hmi : (1536 : Int) < (l.length : Int) := by omega
    have HF := hidM (okRows_big (agg := agg) (bound := (bd : Int)) hm)
    clear hw
    go_enter Tryz.func35, Tryz.ntmps35
    go_wp2
    go_ret
    exact ⟨by rw [HF.out]; rfl, Below.refl _ _⟩
theorem map_take_snoc {l : List Rw} {k : Nat} {r : Rw} (h : l[k]? = some r) : (l.map (·.1)).take (k + 1) = (l.map (·.1)).take k ++ [r.1] := by
  rw [List.take_add_one, List.getElem?_map, h]
  rfl
set_option maxHeartbeats 800000 in
theorem rdistinct_any (v : Value) (l : List Rw) (w : World) (h : WS w v l) (hl : l.length ≤ 100000) :
    Calls Tryz.prog 36 #[v] w fun e w' => (∃ n : Nat, e = .returned (.int .i64 n) ∧ ∀ J, n = (gat J l).1.length) ∧ Below w.heap.size w w' := by
  obtain ⟨i0, hi, hz0, hz1, hz2⟩ := info_parts Tryz.infoKey
  obtain ⟨va, vc, rfl, hsh⟩ := h
  go_enter Tryz.func36, Tryz.ntmps36
  go_wp2
  go_loopw [3, 4] (fun m i wr => ∃ k : Nat, k ≤ l.length ∧ i = .int .i64 k ∧ OwnK wr w.heap.size m ((l.map (·.1)).take k) ∧ Below w.heap.size w wr) (fun _ i _ => l.length - (intOf i).toNat)
  case atStart => exact ⟨0, by omega, rfl, World.ownsRow_nil _ _ _ _, Below.refl _ _⟩
  case round =>
    rename World => w0
    obtain ⟨k, hk, rfl, hown, hbel⟩ := hrel
    have hsz := hbel.size
    by_cases hlt : k < l.length
    · obtain ⟨⟨⟨ya, yb⟩, yn, yl⟩, hy⟩ := getSome hlt
      rcases hsh with rfl | ⟨b, off, rfl, hb, hat⟩
      · simp at hlt
      obtain ⟨c0, c1, -⟩ := (hat.below hbel hb) k _ hy
      simp only at c0 c1
      have hstep := map_take_snoc hy
      have hlk : ((l.map (·.1)).take k).length = k := by simp; omega
      have HBEL := hidM hbel
      clear hy hat hbel
      generalize (l.map (·.1)).take k = ks at hown hstep hlk
      have HOWN := hidM hown
      go_wp2_with (at_builtin; refine wpList_append_own _ rfl _ _ 107 rfl w.heap.size 66 i0 _ 2 24 Tryz.underlying107 hi hz0 hz1 hz2 rfl (by decide) _ _ _ rfl (HOWN.out.alloc _) ⟨w0.heap.size, 0, none⟩ 1 1 [.int .i64 ya, .string yb] rfl rfl (cell_key_new _ _ _ _) (key_cells _ _) ?c3 ?c4 ?c5 ?_)
      case c3 => unfold maxLen; omega
      case c4 => omega
      case c5 => first | omega | (simp; omega)
      intro v2 w2 hown2 hgrow2 _
      have hbel2 : Below w.heap.size w w2 := (HBEL.out.alloc hsz _).grown hgrow2 (by simp; omega) (own_row HOWN.out)
      have hown3 : OwnK w2 w.heap.size v2 ((l.map (·.1)).take (k + 1)) := by rw [hstep]; exact OwnK.snoc (x := (ya, yb)) hown2 hlk.symm
      have HO3 := hidM hown3
      clear hown2 hgrow2 hown hown3 c0 c1
      go_wp2
      go_roundw
      case rel => exact ⟨k + 1, by omega, by go_num, HO3.out, hbel2⟩
      case measure => simp [intOf]; omega
    · have hlt' : l.length ≤ k := by omega
      rw [List.take_of_length_le (by rw [List.length_map]; exact hlt')] at hown
      have HC := hidM (rcount_any _ _ w0 (KS.own hown) (by rw [List.length_map]; exact hl))
      have HBEL := hidM hbel
      obtain ⟨xa, xc, rfl, -⟩ := KS.own hown
      rw [List.length_map] at HC
      clear hown hbel
      go_wp2_with (go_at_call 57; refine HC.out.mono ?_; rintro e W1 ⟨v1, v2, ks, ms, rfl, hcnt, hok, hon, hb1⟩; obtain ⟨a1, p1, rfl, -⟩ := KS.own hok; obtain ⟨a2, p2, rfl⟩ := hon.shape)
      have HN := hidM hcnt
      clear hcnt
      go_ret
      have hcnt := HN.out
      exact ⟨⟨ks.length, rfl, fun J => keys_len hcnt.1 (fun x => by rw [hcnt.2.1, List.mem_map])⟩, nxt HBEL.out hb1⟩
set_option maxHeartbeats 1600000 in
theorem rjoins_any (agg bound : Int) (v : Value) (L : List (List Rw)) (w : World) (h : RnS w v L) (hL : ∀ l ∈ L, WfRs l) (hl : L.length ≤ 100) (hls : ∀ l ∈ L, l.length ≤ 10000 ∧ ∀ r ∈ l, r.2.2.length ≤ 100000) (hfl : L.flatten.length ≤ 100000) :
    Calls Tryz.prog 18 #[.int .i64 agg, .int .i64 bound, v] w (RowsR w w.heap.size (joinRes agg bound L)) := by
  have H1 := hidM (fun W => way_any agg bound W)
  obtain ⟨va, vc, rfl, hsh⟩ := h
  cases hw : wayC agg bound with
  | false =>
    rw [hw] at H1
    rw [joinRes_way hw]
    go_enter Tryz.func18, Tryz.ntmps18
    go_wp2_with (go_at_call 23; refine (H1.out _).mono ?_; rintro e W1 ⟨rfl, rfl⟩)
    go_ret2
    exact ⟨⟨_, rfl, OwnW.nil _ _⟩, Below.refl _ _⟩
  | true =>
  rw [hw] at H1
  have HWAY := hidM hw
  have HL := hidM hL
  have HLS := hidM hls
  have HFL := hidM hfl
  clear hw hL hls hfl
  go_enter Tryz.func18, Tryz.ntmps18
  go_wp2_with (go_at_call 23; refine (H1.out _).mono ?_; rintro e w ⟨rfl, rfl⟩)
  go_loopw [8, 9] (fun vo i wr => ∃ k : Nat, k ≤ L.length ∧ i = .int .i64 k ∧ Hid (∀ l ∈ L.take k, okRows agg bound l = true) ∧ OwnA w wr vo (L.take k).flatten ∧ Below w.heap.size w wr) (fun _ i _ => L.length - (intOf i).toNat)
  case atStart => exact ⟨0, by omega, rfl, hidM (fun l hl => by simp at hl), OwnA.nil _ _, Below.refl _ _⟩
  case round =>
    rename World => w0
    obtain ⟨k, hk, rfl, HOK, hown, hbel⟩ := hrel
    have hsz := hbel.size
    by_cases hlt : k < L.length
    · obtain ⟨r, hr⟩ := getSome hlt
      rcases hsh with rfl | ⟨b, off, rfl, hb, hat⟩
      · simp at hlt
      have hrm := List.mem_of_getElem? hr
      obtain ⟨u, hu0, hws, -⟩ := hat k r hr
      have hu := (hbel.cell (p := ⟨b, off + k, none⟩) hb).trans hu0
      have HC := hidM (rrows_any agg bound u r w0 (hws.below hbel) HWAY.out (by have := (HLS.out r hrm).1; omega) (HLS.out r hrm).2)
      have HBEL := hidM hbel
      have HU := hidM (show ∀ W, Below w.heap.size w W → W.cell? ⟨b, off + k, none⟩ = some u from fun W hW => (hW.cell (p := ⟨b, off + k, none⟩) hb).trans hu0)
      cases hokr : okRows agg bound r with
      | false =>
        rw [hokr] at HC
        have HF := hidM (joinRes_bad (agg := agg) (bound := bound) hrm hokr)
        obtain ⟨ua, uc, rfl, -⟩ := hws
        clear hat hbel hown hokr HOK
        go_wp2_with (go_at_call 35; refine HC.out.mono ?_; rintro e W1 ⟨rfl, hb1⟩)
        go_ret2
        exact ⟨⟨.slice none 0 0, by rw [HF.out]; rfl, by rw [HF.out]; exact OwnW.nil _ _⟩, nxt HBEL.out hb1⟩
      | true =>
        rw [hokr] at HC
        have HRO := hidM (show ∀ l ∈ L.take (k + 1), okRows agg bound l = true from fun l hl => by
          rw [List.take_add_one, hr] at hl
          rcases List.mem_append.1 hl with hl | hl
          · exact HOK.out l hl
          · simp at hl; subst hl; exact hokr)
        have hlen : (L.take k).flatten.length + r.length ≤ 1000000 := by
          obtain ⟨m, hm⟩ := flat_take L (k + 1)
          have h1 := HFL.out
          rw [hm, flat_snoc hr, List.length_append, List.length_append] at h1
          omega
        have HT := hidM (show ∀ W, Below w0.heap.size w0 W → ∃ v4 W4, (Builtin.append_ #[37, 37] 37 #[u8, u]).run Tryz.prog W = .ok v4 W4 ∧ OwnA w W4 v4 (L.take (k + 1)).flatten ∧ Below w.heap.size w W4 from fun W hW => by
          obtain ⟨xs, hx, ha⟩ := hown
          obtain ⟨v4, W4, q1, q2, q3⟩ := OwnA.app 37 ⟨xs, hx.below hW, ha⟩ (nxt hbel hW) hws hlen
          rw [← flat_snoc hr] at q2
          exact ⟨v4, W4, q1, q2, q3⟩)
        obtain ⟨ua, uc, rfl, -⟩ := id hws
        clear hat hbel hown hokr HOK hws hlen
        go_wp2_with (first
          | (go_at_call 35; refine HC.out.mono ?_; rintro e W1 ⟨rfl, hb1⟩; obtain ⟨v4, W4, u1, hown4, hbel4⟩ := HT.out W1 hb1; have U1 := hidM u1; have HO4 := hidM hown4; clear u1 hown4; have cu := HU.out W1 (nxt HBEL.out hb1))
          | (at_builtin; refine wpList_append_run _ rfl _ _ _ rfl _ _ v4 W4 rfl rfl U1.out ?_))
        go_roundw
        case rel => exact ⟨k + 1, by omega, by go_num, HRO, HO4.out, hbel4⟩
        case measure => simp [intOf]; omega
    · have hlt' : L.length ≤ k := by omega
      have HOKL := hidM HOK.out
      rw [List.take_of_length_le hlt'] at hown HOKL
      have HFT := hidM (fun r (hr : r ∈ L.flatten) => List.mem_flatten.1 hr)
      generalize hF : L.flatten = F at hown HFL HFT
      have HFE := hidM hF
      clear hF
      have HD := hidM (rdistinct_any _ _ w0 (hown.ws hbel) HFL.out)
      have HOWN := hidM hown
      have HBEL := hidM hbel
      have HG := hidM (fun W (hW : Below w0.heap.size w0 W) => rgather_any agg bound _ F W ((hown.ws hbel).below hW) ⟨fun r hr => by
        obtain ⟨l, hl, hrl⟩ := HFT.out r hr
        exact (runOk_of (HOKL.out l hl) (HL.out l hl)).cell r hrl⟩ HFL.out)
      obtain ⟨xa, xc, rfl, -⟩ := hown.ws hbel
      clear hown hbel HOK
      go_wp2_with fail
      refine HD.out.mono ?_
      rintro e W1 ⟨⟨n, rfl, hn⟩, hb1⟩
      have hn' := hn (joinC agg bound.toNat)
      clear hn
      by_cases hbig : n ≤ 1536
      · have hbi : ¬ (1536 : Int) < (n : Int) := by omega
        have HF := hidM (joinRes_ok HWAY.out HOKL.out (by rw [HFE.out]; omega))
        have HG2 := hidM (HG.out W1 hb1)
        have HSZ := hidM hb1.size
        clear hn' HG
        go_wp2_with (go_at_call 37; refine HG2.out.mono ?_; rintro e w' ⟨⟨v', rfl, ho'⟩, hb'⟩)
        go_ret2
        have hsz2 : w.heap.size ≤ W1.heap.size := by have := HSZ.out; omega
        exact ⟨⟨v', by rw [HF.out, HFE.out]; rfl, by rw [HF.out, HFE.out]; exact ho'.lower hsz2⟩, (nxt HBEL.out hb1).trans (hb'.mono hsz2)⟩
      · have hbi : (1536 : Int) < (n : Int) := by omega
        have HF := hidM (joinRes_big (agg := agg) (bound := bound) (L := L) (k := L.length) (by rw [List.take_length, HFE.out]; omega))
        clear hn' HG
        go_wp2
        go_ret2
        exact ⟨⟨.slice none 0 0, by rw [HF.out]; rfl, by rw [HF.out]; exact OwnW.nil _ _⟩, nxt HBEL.out hb1⟩
end Go.Proofs.YtaagllbcmgnbnaaGreatDoor
/- Runs of rows compared. -/
namespace Go.Proofs.YtaagllbcmgnbnaaGreatDoor
open Go.RowKit
set_option linter.unusedVariables false
set_option maxRecDepth 100000

set_option maxHeartbeats 1000000 in
theorem eqRuns_any (v u : Value) (L : List (List Rw)) (w : World) (h : RnS w v L) (h' : RnS w u L) (hl : L.length ≤ 100000) (hls : ∀ l ∈ L, l.length ≤ 100000 ∧ ∀ r ∈ l, r.2.2.length ≤ 100000) :
    Calls Tryz.prog 15 #[v, u] w (BoolR w true) := by
  obtain ⟨a, cap, rfl, hsh⟩ := h
  obtain ⟨a', cap', rfl, hsh'⟩ := h'
  go_enter Tryz.func15, Tryz.ntmps15
  go_wp2
  go_loopw [5] (fun i wr => ∃ k : Nat, k ≤ L.length ∧ i = .int .i64 k ∧ Below w.heap.size w wr) (fun i _ => L.length - (intOf i).toNat)
  case atStart => exact ⟨0, by omega, rfl, Below.refl _ _⟩
  case round =>
    rename World => w0
    obtain ⟨k, hk, rfl, hbel⟩ := hrel
    have hsz := hbel.size
    by_cases hlt : k < L.length
    · obtain ⟨r, hr⟩ := getSome hlt
      rcases hsh with rfl | ⟨b, off, rfl, hb, hat⟩
      · simp at hlt
      rcases hsh' with rfl | ⟨b', off', rfl, hb', hat'⟩
      · simp at hlt
      obtain ⟨x, hx0, hws, -⟩ := hat k r hr
      obtain ⟨y, hy0, hws', -⟩ := hat' k r hr
      obtain ⟨q1, q2⟩ := hls r (List.mem_of_getElem? hr)
      have hl1 : b < w0.heap.size := by omega
      have hl2 : b' < w0.heap.size := by omega
      have H := hidM (fun W (hW : Below w0.heap.size w0 W) => eqrows_any x y r W ((hws.below hbel).below hW) ((hws'.below hbel).below hW) q1 q2)
      have hx := (hbel.cell (p := ⟨b, off + k, none⟩) hb).trans hx0
      have hy := (hbel.cell (p := ⟨b', off' + k, none⟩) hb').trans hy0
      have HS := hidM (show ∀ W, Below w0.heap.size w0 W → W.cell? ⟨b, off + k, none⟩ = some x ∧ W.cell? ⟨b', off' + k, none⟩ = some y ∧ Below w0.heap.size w0 W from fun W hW =>
        ⟨(hW.cell (p := ⟨b, _, none⟩) hl1).trans hx, (hW.cell (p := ⟨b', _, none⟩) hl2).trans hy, hW⟩)
      obtain ⟨xa, xc, rfl, -⟩ := id hws
      obtain ⟨za, zc, rfl, -⟩ := id hws'
      clear hat hat' hws hws' hx0 hy0 hr hx hy
      have HBEL := hidM hbel
      go_wp2_with fail
      go_region_held3 (fun W => W.cell? ⟨b, off + k, none⟩ = some (.slice xa r.length xc) ∧ W.cell? ⟨b', off' + k, none⟩ = some (.slice za r.length zc) ∧ Below w0.heap.size w0 W)
        (first | exact HS.out _ (Below.refl _ _).drew | exact HS.out _ (nxt ((Below.refl _ _).drew) hb2))
        (first | (go_at_call 19; refine (H.out _ ((Below.refl _ _).drew)).mono ?_; rintro e W2 ⟨rfl, hb2⟩))
      go_wp2
      go_roundw
      case rel => exact ⟨k + 1, by omega, by go_num, (HBEL.out.trans ((nxt ((Below.refl w0.heap.size w0).drew) hb2).mono hsz))⟩
      case measure => simp [intOf]; omega
    · go_wp2
      go_ret
      exact ⟨rfl, hbel⟩
end Go.Proofs.YtaagllbcmgnbnaaGreatDoor
/- Rows of one's own, written over: thresherlaw0.Rows. -/
namespace Go.Proofs.YtaagllbcmgnbnaaGreatDoor
open Go.RowKit
set_option linter.unusedVariables false

/-- A set's slice: empty, or a row of numbers of the call's own. -/
def SetOk (w : World) (base : Nat) (s : Sl) : Prop := s.2.1 = 0 ∨ ∃ (g : Nat) (cur : Array Value), s.1 = some ⟨g, 0, none⟩ ∧ base ≤ g ∧ w.heap[g]? = some (.cells cur 2 (0, 0)) ∧ s.2.1 ≤ cur.size
theorem SetOk.own {w : World} {base : Nat} {s : Sl} {l : List Int} (h : OwnL w base (slV s) l) : SetOk w base s := by
  obtain ⟨sa, sn, sc⟩ := s
  rcases h.2 with ⟨h1, h2⟩ | ⟨g, cap, cur, h1, hg, hb, hn, hm, hs, ht⟩
  · injection h1 with e1 e2 e3
    exact .inl e2
  · injection h1 with e1 e2 e3
    subst e1 e2
    exact .inr ⟨g, cur, rfl, hg, hb, by simp only; omega⟩
theorem SetOk.keep {w w' : World} {base : Nat} {s : Sl} (h : SetOk w base s) (k : KeepT 2 w w') : SetOk w' base s := by
  rcases h with h | ⟨g, cur, h1, h2, h3, h4⟩
  · exact .inl h
  · exact .inr ⟨g, cur, h1, h2, k g cur h3, h4⟩
theorem SetOk.set {w : World} {base g o : Nat} {cur : Array Value} {s : Sl} {u : Value} (h : SetOk w base s) (hb : w.heap[g]? = some (.cells cur 2 (0, 0))) : SetOk (w.setCell ⟨g, o, none⟩ u) base s := by
  rcases h with h | ⟨g', cur', h1, h2, h3, h4⟩
  · exact .inl h
  · by_cases e : g' = g
    · subst e
      rw [hb] at h3
      injection h3 with h3
      injection h3 with h3
      subst h3
      exact .inr ⟨g', cur.setIfInBounds o u, h1, h2, by simp [World.setCell, Array.getElem?_modify, hb], by simpa using h4⟩
    · refine .inr ⟨g', cur', h1, h2, ?_, h4⟩
      rw [Below.heap_setCell _ _ _ _ e]
      exact h3
theorem keepT_set {T T' : TypeId} (hT : T ≠ T') {w : World} {g o : Nat} {cur : Array Value} {u : Value} (hb : w.heap[g]? = some (.cells cur T' (0, 0))) : KeepT T w (w.setCell ⟨g, o, none⟩ u) := fun g' cur' h => by
  have e : g' ≠ g := fun e => by
    subst e
    rw [hb] at h
    injection h with h
    injection h with _ h
    exact hT h.symm
  rw [Below.heap_setCell _ _ _ _ e]
  exact h
theorem set_type {w : World} {g o : Nat} {cur : Array Value} {T : TypeId} {u : Value} (hb : w.heap[g]? = some (.cells cur T (0, 0))) : (w.setCell ⟨g, o, none⟩ u).heap[g]? = some (.cells (cur.setIfInBounds o u) T (0, 0)) := by
  simp [World.setCell, Array.getElem?_modify, hb]
/-- Nothing below a place has been written. -/
theorem bel_set {w W : World} {B b o : Nat} (h : Below B w W) (hb : B ≤ b) (u : Value) : Below B w (W.setCell ⟨b, o, none⟩ u) := by
  refine ⟨h.os, h.tape, h.output, by simp [World.setCell]; exact h.size, fun k hk => ?_⟩
  rw [Below.heap_setCell _ _ _ _ (by show k ≠ b; omega)]
  exact h.block k hk
/-- A row that holds nothing. -/
abbrev noRaw : Raw := ((0, ⟨#[]⟩), 0, (none, 0, 0))
theorem flatW_none (xs : List Raw) (p : Nat) (x : Raw) (hx : xs[p]? = some x) : flatW (xs.set p noRaw) = ((((flatW xs).set (p * 4) (.int .i64 0)).set (p * 4 + 1) (.string ⟨#[]⟩)).set (p * 4 + 2) (.int .i64 0)).set (p * 4 + 3) (.slice none 0 0) := by
  induction xs generalizing p with
  | nil => simp at hx
  | cons a l ih =>
    cases p with
    | zero => rfl
    | succ p =>
      have hx' : l[p]? = some x := by simpa using hx
      rw [List.set_cons_succ]
      show encW a ++ flatW (l.set p noRaw) = (((((encW a ++ flatW l).set ((p + 1) * 4) (.int .i64 0)).set ((p + 1) * 4 + 1) (.string ⟨#[]⟩)).set ((p + 1) * 4 + 2) (.int .i64 0)).set ((p + 1) * 4 + 3) (.slice none 0 0))
      rw [ih p hx']
      have e0 : (p + 1) * 4 = (encW a).length + (p * 4) := by simp [encW]; omega
      have e1 : (p + 1) * 4 + 1 = (encW a).length + (p * 4 + 1) := by simp [encW]; omega
      have e2 : (p + 1) * 4 + 2 = (encW a).length + (p * 4 + 2) := by simp [encW]; omega
      have e3 : (p + 1) * 4 + 3 = (encW a).length + (p * 4 + 3) := by simp [encW]; omega
      rw [e1, e2, e3, e0, List.set_append_right _ _ (by omega), List.set_append_right _ _ (by omega), List.set_append_right _ _ (by omega), List.set_append_right _ _ (by omega)]
      simp
/-- What lies there while it is written over. -/
structure Wip (w : World) (base : Nat) (g n cap : Nat) (xs : List Raw) : Prop where
  own : OwnX w base (.slice (some ⟨g, 0, none⟩) n cap) xs
  sets : ∀ x ∈ xs, SetOk w base x.2.2
theorem Wip.block {w : World} {base g n cap : Nat} {xs : List Raw} (h : Wip w base g n cap xs) : base ≤ g ∧ n = xs.length ∧ ∃ cur : Array Value, w.heap[g]? = some (.cells cur 82 (0, 0)) ∧ xs.length * 4 ≤ cur.size ∧ cur.toList.take (xs.length * 4) = flatW xs := by
  rcases h.own.2 with ⟨h1, _⟩ | ⟨g', cap', cur, h1, hg, hb, hn, hm, hs, ht⟩
  · cases h1
  · injection h1 with e1 e2 e3
    injection e1 with e1
    injection e1 with e1
    subst e1 e2 e3
    exact ⟨hg, rfl, cur, hb, by omega, ht⟩
theorem Wip.cells {w : World} {base g n cap p : Nat} {xs : List Raw} {x : Raw} (h : Wip w base g n cap xs) (hx : xs[p]? = some x) :
    w.cell? ⟨g, p * 4, none⟩ = some (.int .i64 x.1.1) ∧ w.cell? ⟨g, p * 4 + 1, none⟩ = some (.string x.1.2) ∧ w.cell? ⟨g, p * 4 + 2, none⟩ = some (.int .i64 x.2.1) ∧ w.cell? ⟨g, p * 4 + 3, none⟩ = some (slV x.2.2) ∧ ∀ q, w.frozen? ⟨g, q, none⟩ = false := by
  obtain ⟨-, -, cur, hb, -, -⟩ := h.block
  obtain ⟨q0, q1, q2, q3⟩ := flatW_get xs p x hx
  obtain ⟨-, -, -, hc⟩ := h.own.cell
  exact ⟨hc _ _ q0, hc _ _ q1, hc _ _ q2, hc _ _ q3, fun q => by simp [World.frozen?, hb]⟩
theorem Wip.num {w : World} {base g n cap g2 j : Nat} {xs : List Raw} {u : Value} {cur : Array Value} (h : Wip w base g n cap xs) (hb : w.heap[g2]? = some (.cells cur 2 (0, 0))) : Wip (w.setCell ⟨g2, j, none⟩ u) base g n cap xs :=
  ⟨h.own.keepT (keepT_set (by decide) hb), fun x hx => (h.sets x hx).set hb⟩
theorem Wip.row {w : World} {base g n cap p : Nat} {xs : List Raw} {x : Raw} (h : Wip w base g n cap xs) (hx : xs[p]? = some x) :
    Wip ((((w.setCell ⟨g, p * 4, none⟩ (.int .i64 0)).setCell ⟨g, p * 4 + 1, none⟩ (.string ⟨#[]⟩)).setCell ⟨g, p * 4 + 2, none⟩ (.int .i64 0)).setCell ⟨g, p * 4 + 3, none⟩ (.slice none 0 0)) base g n cap (xs.set p noRaw) := by
  obtain ⟨hg, hn, cur, hb, hs, ht⟩ := h.block
  have b1 := set_type (o := p * 4) (u := .int .i64 0) hb
  have b2 := set_type (o := p * 4 + 1) (u := .string ⟨#[]⟩) b1
  have b3 := set_type (o := p * 4 + 2) (u := .int .i64 0) b2
  have b4 := set_type (o := p * 4 + 3) (u := .slice none 0 0) b3
  refine ⟨?_, fun y hy => ?_⟩
  · rcases h.own.2 with ⟨h1, _⟩ | ⟨g', cap', cur', h1, hg', hb', hn', hm', hs', ht'⟩
    · cases h1
    · injection h1 with e1 e2 e3
      injection e1 with e1
      injection e1 with e1
      subst e1 e2 e3
      rw [hb] at hb'
      injection hb' with hb'
      injection hb' with hb'
      subst hb'
      refine ⟨by rw [flatW_len], .inr ⟨g, cap, _, by rw [List.length_set], hg, b4, by rw [List.length_set]; exact hn', hm', by simp [hs'], ?_⟩⟩
      rw [List.length_set, flatW_none xs p x hx, ← ht]
      simp only [Array.toList_setIfInBounds]
      rw [List.take_set, List.take_set, List.take_set, List.take_set]
  · rcases List.mem_or_eq_of_mem_set hy with hy | rfl
    · exact ((((h.sets y hy).keep (keepT_set (by decide) hb)).keep (keepT_set (by decide) b1)).keep (keepT_set (by decide) b2)).keep (keepT_set (by decide) b3)
    · exact .inl rfl
end Go.Proofs.YtaagllbcmgnbnaaGreatDoor
namespace Go.Proofs.YtaagllbcmgnbnaaGreatDoor
open Go.RowKit
set_option linter.unusedVariables false
set_option maxRecDepth 100000

set_option maxHeartbeats 1600000 in
theorem wipeRows_any (base : Nat) (v : Value) (l : List Rw) (w : World) (h : OwnW w base v l) (hl : l.length ≤ 100000) (hls : ∀ r ∈ l, r.2.2.length ≤ 100000) :
    Calls Tryz.prog 20 #[v] w fun e w' => e = .returned (.tuple #[]) ∧ Below base w w' := by
  obtain ⟨xs0, hx0, ha0⟩ := h
  have hxl : xs0.length ≤ 100000 := by rw [ha0.1]; exact hl
  rcases hx0.2 with ⟨rfl, h0⟩ | ⟨g, cap, cur, rfl, _⟩
  · go_enter Tryz.func20, Tryz.ntmps20
    go_wp2
    go_loop [2] (fun i => i = .int .i64 0) (fun _ => 0)
    case atStart => rfl
    case round =>
      subst hrel
      go_wp2
      go_end0
      exact ⟨rfl, Below.refl _ _⟩
  · have HW := hidM (show Wip w base g xs0.length cap xs0 from ⟨hx0, fun x hx => by
      obtain ⟨i, hi⟩ := List.getElem?_of_mem hx
      obtain ⟨r, hr⟩ := getSome (l := l) (i := i) (by rw [← ha0.1]; exact (List.getElem?_eq_some_iff.1 hi).1)
      exact SetOk.own (ha0.2 i x r hi hr).s⟩)
    have HSL := hidM (show ∀ x ∈ xs0, x.2.2.2.1 ≤ 100000 from fun x hx => by
      obtain ⟨i, hi⟩ := List.getElem?_of_mem hx
      obtain ⟨r, hr⟩ := getSome (l := l) (i := i) (by rw [← ha0.1]; exact (List.getElem?_eq_some_iff.1 hi).1)
      obtain ⟨a, c, e, -⟩ := OwnL.ns (ha0.2 i x r hi hr).s
      injection e with e1 e2 e3
      rw [e2]
      exact hls r (List.mem_of_getElem? hr))
    clear ha0 hx0 hl hls
    generalize xs0.length = n at hxl HW
    go_enter Tryz.func20, Tryz.ntmps20
    go_wp2
    go_loopw [2] (fun i wr => ∃ k : Nat, k ≤ n ∧ i = .int .i64 k ∧ Hid (∃ xs : List Raw, Wip wr base g n cap xs ∧ (∀ x ∈ xs, x.2.2.2.1 ≤ 100000) ∧ Below base w wr)) (fun i _ => n - (intOf i).toNat)
    case atStart => exact ⟨0, by omega, rfl, xs0, HW.out, HSL.out, Below.refl _ _⟩
    case round =>
      rename World => w0
      obtain ⟨k, hk, rfl, HH⟩ := hrel
      by_cases hlt : k < n
      · obtain ⟨xs, hw, hsl, hbel⟩ := HH.out
        obtain ⟨-, hn, -⟩ := hw.block
        obtain ⟨⟨⟨ya, yb⟩, yn, sa, sn, sc⟩, hx⟩ := getSome (l := xs) (i := k) (by omega)
        have hsn : sn ≤ 100000 := hsl _ (List.mem_of_getElem? hx)
        have HX := hidM hx
        have HSL2 := hidM hsl
        have hkn0 : (0 : Int) ≤ (k : Int) := by omega
        have hkn : (k : Int) < (n : Int) := by omega
        have HI := hidM (show Wip w0 base g n cap xs ∧ Below base w w0 from ⟨hw, hbel⟩)
        clear hw hbel hsl hn hx HH
        go_wp2
        go_loopw [3] (fun i wr => ∃ j : Nat, j ≤ sn ∧ i = .int .i64 j ∧ Hid (Wip wr base g n cap xs ∧ Below base w wr)) (fun i _ => sn - (intOf i).toNat)
        case atStart => exact ⟨0, by omega, rfl, HI⟩
        case round =>
          rename World => w1
          obtain ⟨j, hj, rfl, HJ⟩ := hrel
          obtain ⟨c0, c1, c2, c3, fz⟩ := HJ.out.1.cells HX.out
          simp only at c0 c1 c2
          replace c3 : w1.cell? ⟨g, k * 4 + 3, none⟩ = some (.slice sa sn sc) := c3
          by_cases hjl : j < sn
          · obtain ⟨g2, cur2, e2, hg2, hb2, hs2⟩ : ∃ (g2 : Nat) (cur2 : Array Value), sa = some ⟨g2, 0, none⟩ ∧ base ≤ g2 ∧ w1.heap[g2]? = some (.cells cur2 2 (0, 0)) ∧ sn ≤ cur2.size := by
              rcases HJ.out.1.sets _ (List.mem_of_getElem? HX.out) with h | h
              · simp only at h; omega
              · exact h
            subst e2
            have hf2 : w1.frozen? ⟨g2, j, none⟩ = false := by simp [World.frozen?, hb2]
            obtain ⟨z, hz⟩ : ∃ z, w1.cell? ⟨g2, j, none⟩ = some z := ⟨cur2[j]'(by omega), by simp only [World.cell?, hb2]; simp [show j < cur2.size by omega]⟩
            have HR := hidM (show Wip (w1.setCell ⟨g2, j, none⟩ (.int .i64 (-99))) base g n cap xs ∧ Below base w (w1.setCell ⟨g2, j, none⟩ (.int .i64 (-99))) from ⟨HJ.out.1.num hb2, bel_set HJ.out.2 hg2 _⟩)
            have hj0 : (0 : Int) ≤ (j : Int) := by omega
            have hjn : (j : Int) < (sn : Int) := by omega
            clear hb2 hs2 HJ HI
            go_wp2
            go_roundw
            case rel => exact ⟨j + 1, by omega, by go_num, HR⟩
            case measure => simp [intOf]; omega
          · have hjl' : sn ≤ j := by omega
            have HR := hidM (HJ.out.1.row HX.out)
            have HB := hidM HJ.out.2
            have hbg := HJ.out.1.block.1
            clear HJ HI
            go_wp2
            go_roundw
            case rel => exact ⟨k + 1, by omega, by go_num, _, HR.out, fun x hx => by
              rcases List.mem_or_eq_of_mem_set hx with hx | rfl
              · exact HSL2.out x hx
              · exact Nat.zero_le _, bel_set (bel_set (bel_set (bel_set HB.out hbg _) hbg _) hbg _) hbg _⟩
            case measure => simp [intOf]; omega
      · have hlt' : n ≤ k := by omega
        obtain ⟨xs, -, -, hbel⟩ := HH.out
        clear HH
        go_wp2
        go_end0
        exact ⟨rfl, hbel⟩
end Go.Proofs.YtaagllbcmgnbnaaGreatDoor
/- thresherlaw10.RowJoins: its walk. -/
namespace Go.Proofs.YtaagllbcmgnbnaaGreatDoor
open Go.RowKit
set_option linter.unusedVariables false
set_option maxRecDepth 100000

theorem LLS.take {w : World} {a : Option Addr} {cap : Nat} {L : List (List Rw)} (h : LLS w (.slice a L.length cap) L) (n : Nat) (hn : n ≤ L.length) : RnS w (.slice a n cap) (L.take n) := by
  obtain ⟨a0, c0, e, h⟩ := h
  injection e with e1 e2 e3
  subst e1
  refine ⟨a, cap, by rw [List.length_take, Nat.min_eq_left hn], ?_⟩
  rcases h with rfl | ⟨b, off, rfl, hb, hat⟩
  · exact .inl (by simp)
  · refine .inr ⟨b, off, rfl, hb, fun i l hl => hat i l ?_⟩
    have hi := (List.getElem?_eq_some_iff.1 hl).1
    rw [List.length_take] at hi
    rwa [List.getElem?_take_of_lt (by omega)] at hl
theorem RnS.below {w w' : World} {v : Value} {L : List (List Rw)} (h : RnS w v L) (hb : Below w.heap.size w w') : RnS w' v L := by
  obtain ⟨a, cap, rfl, h⟩ := h
  refine ⟨a, cap, rfl, ?_⟩
  rcases h with h | ⟨b, off, rfl, hlt, h⟩
  · exact .inl h
  · exact .inr ⟨b, off, rfl, Nat.lt_of_lt_of_le hlt hb.size, RunsC.below (B := 0) h hb hlt⟩
/-- What comes of runs is small. -/
theorem joinRes_small {agg bound : Int} {L : List (List Rw)} (hL : ∀ l ∈ L, WfRs l) : (joinRes agg bound L).1.length ≤ 100000 ∧ ∀ y ∈ (joinRes agg bound L).1, y.2.2.length ≤ 100000 := by
  unfold joinRes
  split
  · next h =>
    rw [Bool.and_eq_true, Bool.and_eq_true, List.all_eq_true, decide_eq_true_eq] at h
    obtain ⟨⟨hw, ho⟩, hl⟩ := h
    unfold fin
    split
    · refine ⟨by omega, fun y hy => ?_⟩
      have h1 := mem_look (rise_gat (joinC agg bound.toNat) L.flatten) hy
      have := okC_gat (agg := agg) (bound := bound) L.flatten (fun r hr => by
        obtain ⟨l, hl, hrl⟩ := List.mem_flatten.1 hr
        exact (runOk_of (ho l hl) (hL l hl)).cell r hrl) _ _ h1
      have := this.2.2
      omega
    · simp
  · simp
end Go.Proofs.YtaagllbcmgnbnaaGreatDoor
/- The page's own MayFold. -/
namespace Go.Proofs.YtaagllbcmgnbnaaGreatDoor
open Go.RowKit
set_option linter.unusedVariables false
set_option maxRecDepth 100000

theorem mayFold_any (agg bound : Int) (v : Value) (l : List Rc) (w : World) (h : RS w v l) (hl : l.length ≤ 100000) :
    Calls Tryz.prog 12 #[.int .i64 agg, .int .i64 bound, v] w (BoolR w (wayC agg bound && decide (l.length ≤ 1536) && keysOk l)) := by
  have H1 := hidM (fun W => way_any agg bound W)
  have H2 := hidM (fun W (hW : Below w.heap.size w W) => rrecs_any v l W (h.below hW) hl)
  obtain ⟨va, vc, rfl, -⟩ := id h
  by_cases hw : wayC agg bound = true
  · rw [hw] at H1 ⊢
    by_cases hl2 : l.length ≤ 1536
    · have hl3 : (l.length : Int) ≤ 1536 := by omega
      rw [decide_eq_true hl2, Bool.true_and, Bool.true_and]
      generalize keysOk l = ok at H2 ⊢
      go_enter Tryz.func12, Tryz.ntmps12
      go_wp2_with (first | (go_at_call 23; refine (H1.out _).mono ?_; rintro e W1 ⟨rfl, rfl⟩) | (go_at_call 22; refine (H2.out _ (Below.refl _ _)).mono ?_; rintro e W2 ⟨rfl, hb2⟩))
      go_ret
      exact ⟨rfl, hb2⟩
    · have hl3 : ¬ (l.length : Int) ≤ 1536 := by omega
      rw [decide_eq_false hl2, Bool.and_false, Bool.false_and]
      go_enter Tryz.func12, Tryz.ntmps12
      go_wp2_with (go_at_call 23; refine (H1.out _).mono ?_; rintro e W1 ⟨rfl, rfl⟩)
      go_ret
      exact ⟨rfl, Below.refl _ _⟩
  · rw [show wayC agg bound = false by simpa using hw] at H1 ⊢
    rw [Bool.false_and, Bool.false_and]
    go_enter Tryz.func12, Tryz.ntmps12
    go_wp2_with (go_at_call 23; refine (H1.out _).mono ?_; rintro e W1 ⟨rfl, rfl⟩)
    go_ret
    exact ⟨rfl, Below.refl _ _⟩
end Go.Proofs.YtaagllbcmgnbnaaGreatDoor
