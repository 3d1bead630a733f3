/- The page's own Count. -/
import Derived.Test.YticpaemmdfmbfaaJ48
import Derived.Test.YticpaemmdfmbfaaJ17
namespace Go.Proofs.Yticpaemmdfmbfaa
open Go.RowKit Go.Deep
set_option linter.unusedVariables false
set_option maxRecDepth 100000

theorem OwnN.base {w : World} {base base' : Nat} {v : Value} {l : List Int} (h : OwnN w base v l) (hb : base' ≤ base) : OwnN w base' v l := by
  refine ⟨h.1, ?_⟩
  rcases h.2 with ⟨h1, h2⟩ | ⟨g, cap, cur, h1, h2, h3⟩
  · exact .inl ⟨h1, h2⟩
  · exact .inr ⟨g, cap, cur, h1, Nat.le_trans hb h2, h3⟩
/-- A row of keys and a row of numbers are two. -/
theorem rows_apart {w : World} {base base' : Nat} {v u : Value} {ks : List Ky} {ms : List Int} (h : OwnK w base v ks) (h' : OwnN w base' u ms) : v.ownBlock = none ∨ v.ownBlock ≠ u.ownBlock := by
  rcases h.2 with ⟨rfl, _⟩ | ⟨g, cap, cur, rfl, _, hb, _⟩
  · exact .inl rfl
  right
  rcases h'.2 with ⟨rfl, _⟩ | ⟨g', cap', cur', rfl, _, hb', _⟩
  · simp [Value.ownBlock]
  · intro e
    have e' : g = g' := by simpa [Value.ownBlock] using e
    subst e'
    rw [hb] at hb'
    injection hb' with hb'
    injection hb' with _ hb' _
    revert hb'
    decide
theorem apart_symm {a b : Option Nat} (h : a = none ∨ a ≠ b) : b = none ∨ b ≠ a := by
  rcases h with h | h
  · subst h; cases b
    · exact .inl rfl
    · exact .inr (by simp)
  · exact .inr (Ne.symm h)
/-- The last number is written anew. -/
theorem OwnN.set {w : World} {base g cap : Nat} {ms : List Int} {m x : Int} (h : OwnN w base (.slice (some ⟨g, 0, none⟩) (ms.length + 1) cap) (ms ++ [m])) :
    OwnN (w.setCell ⟨g, ms.length, none⟩ (.int .i64 x)) base (.slice (some ⟨g, 0, none⟩) (ms.length + 1) cap) (ms ++ [x]) := by
  rcases h.2 with ⟨h0, _⟩ | ⟨g', cap', cur, hv, hg, hb, h1, h2, h3, h4⟩
  · cases h0
  obtain ⟨rfl, rfl⟩ : g = g' ∧ cap = cap' := by simpa using hv
  refine ⟨by simp, .inr ⟨g, cap, cur.setIfInBounds ms.length (.int .i64 x), by simp, hg, ?_, by simpa using h1, h2, by simpa using h3, ?_⟩⟩
  · simp only [World.setCell, Array.getElem?_modify, hb]
    simp
  · simp only [List.length_append, List.length_cons, List.length_nil, Nat.mul_one] at h1 h3 h4 ⊢
    rw [Array.toList_setIfInBounds, List.take_set, h4, List.map_append, List.map_append]
    simp
theorem OwnN.last {w : World} {base g cap : Nat} {ms : List Int} {m : Int} (h : OwnN w base (.slice (some ⟨g, 0, none⟩) (ms.length + 1) cap) (ms ++ [m])) :
    w.cell? ⟨g, ms.length, none⟩ = some (.int .i64 m) ∧ w.frozen? ⟨g, ms.length, none⟩ = false := by
  rcases h.2 with ⟨h0, _⟩ | ⟨g', cap', cur, hv, hg, hb, h1, h2, h3, h4⟩
  · cases h0
  obtain ⟨rfl, rfl⟩ : g = g' ∧ cap = cap' := by simpa using hv
  have h0 : ((ms ++ [m]).map (Value.int .i64))[ms.length]? = some (.int .i64 m) := by simp
  simp only [List.length_append, List.length_cons, List.length_nil, Nat.mul_one] at h4
  rw [← h4, List.getElem?_take_of_lt (by simp)] at h0
  exact ⟨by simp only [World.cell?, hb]; simpa using h0, by simp [World.frozen?, hb]⟩

theorem run_new {s : List Ky} (hs : s.Pairwise (fun x y => ltK y x = false)) {p : Nat} {y z : Ky} (hz : s[p]? = some z) (hy : s[p + 1]? = some y) (hne : y ≠ z) : ∀ x ∈ s.take (p + 1), ltK x y = true := by
  have e1 : s.take (p + 1) = s.take p ++ [z] := by rw [List.take_add_one, hz]; rfl
  have e2 : s.take (p + 1 + 1) = s.take p ++ [z] ++ [y] := by rw [List.take_add_one, hy, e1]; rfl
  have h2 := hs
  rw [← List.take_append_drop (p + 1 + 1) s, List.pairwise_append, e2, List.pairwise_append, List.pairwise_append] at h2
  obtain ⟨⟨⟨_, _, h3⟩, _, h4⟩, _⟩ := h2
  have hzy : ltK z y = true := by
    have h5 := h4 z (by simp) y (by simp)
    cases h6 : ltK z y
    · exact absurd (ltK_total h5 h6) hne
    · rfl
  rw [e1]
  intro x hx
  rcases List.mem_append.1 hx with hx | hx
  · exact le_ltK (h3 x hx z (by simp)) hzy
  · rw [List.mem_singleton] at hx; subst hx; exact hzy
/-- How the counts stand behind k keys of s. -/
def Runs (s : List Ky) (k : Nat) (ks : List Ky) (ms : List Int) : Prop :=
  Cnt (s.take k) ks ms ∧ ∀ p z, k = p + 1 → s[p]? = some z → ∃ ks' ms' m, ks = ks' ++ [z] ∧ ms = ms' ++ [m]
theorem Runs.start (s : List Ky) : Runs s 0 [] [] := ⟨Cnt.nil, fun p z h => by omega⟩
theorem Runs.new {s : List Ky} {k : Nat} {ks : List Ky} {ms : List Int} {y : Ky} (h : Runs s k ks ms) (hy : s[k]? = some y) (hx : ∀ x ∈ s.take k, ltK x y = true) : Runs s (k + 1) (ks ++ [y]) (ms ++ [1]) := by
  refine ⟨?_, fun p z hp hz => ?_⟩
  · have e : s.take (k + 1) = s.take k ++ [y] := by rw [List.take_add_one, hy]; rfl
    rw [e]
    exact h.1.new hx
  · obtain rfl : k = p := by omega
    rw [hy] at hz
    injection hz with hz
    subst hz
    exact ⟨ks, ms, 1, rfl, rfl⟩
theorem Runs.more {s : List Ky} {p : Nat} {ks : List Ky} {ms : List Int} {m : Int} {y : Ky} (h : Runs s (p + 1) (ks ++ [y]) (ms ++ [m])) (hy : s[p + 1]? = some y) : Runs s (p + 1 + 1) (ks ++ [y]) (ms ++ [m + 1]) := by
  refine ⟨?_, fun q z hp hz => ?_⟩
  · have e : s.take (p + 1 + 1) = s.take (p + 1) ++ [y] := by rw [List.take_add_one, hy]; rfl
    rw [e]
    exact h.1.more
  · obtain rfl : q = p + 1 := by omega
    rw [hy] at hz
    injection hz with hz
    subst hz
    exact ⟨ks, ms, m + 1, rfl, rfl⟩
theorem Runs.bound {s : List Ky} {k : Nat} {ks : List Ky} {ms : List Int} {m : Int} (h : Runs s k ks (ms ++ [m])) : 0 ≤ m ∧ m ≤ s.length := by
  have e := h.1.2.2
  have hm : m ∈ ks.map fun x => (cnt (s.take k) x : Int) := by rw [← e]; simp
  obtain ⟨x, _, rfl⟩ := List.mem_map.1 hm
  have := cnt_le (s.take k) x
  simp at this ⊢
  omega
theorem Runs.len {s : List Ky} {k : Nat} {ks : List Ky} {ms : List Int} (h : Runs s k ks ms) : ks.length ≤ s.length ∧ ms.length = ks.length := by
  have h1 := h.1.le
  have h2 := h.1.length
  simp at h1
  exact ⟨by omega, h2⟩

/-- What Count leaves. -/
def CountPost (l : List Ky) (w : World) (e : Ending) (w' : World) : Prop :=
  ∃ v1 v2 ks ms, e = .returned (.tuple #[v1, v2]) ∧ Cnt l ks ms ∧ OwnK w' w.heap.size v1 ks ∧ OwnN w' w.heap.size v2 ms ∧ Below w.heap.size w w'

set_option maxRecDepth 100000 in
set_option maxHeartbeats 1600000 in
theorem rcount_any (v : Value) (l : List Ky) (w : World) (h : KS w v l) (hl : l.length ≤ 100000) :
    Calls Try.prog 60 #[v] w fun e w' => CountPost l w e w' := by
  obtain ⟨i0, hi, hz0, hz1, hz2⟩ := info_parts Try.infoKey
  obtain ⟨i1, hj, hy0, hy1, hy2⟩ := info_parts Try.info3
  have hsort := rsort_any v l w h hl
  clear h
  go_enter Try.func60, Try.ntmps60
  go_wp2_with fail
  refine hsort.mono ?_
  rintro e w1 ⟨va, s, rfl, hS, hva, hbel1⟩
  have hsl : s.length = l.length := hS.1.length_eq
  have hsz1 := hbel1.size
  have hfin : ∀ {k ks ms}, Runs s k ks ms → s.length ≤ k → Cnt l ks ms := fun hR hk => by
    have := hR.1
    rw [List.take_of_length_le hk] at this
    exact this.perm hS.1
  by_cases hs0 : s = []
  · subst hs0
    obtain ⟨aa, ca, rfl⟩ : ∃ aa ca, va = .slice aa 0 ca := by
      rcases hva.2 with ⟨rfl, _⟩ | ⟨g, cap, cur, rfl, _⟩
      · exact ⟨_, _, rfl⟩
      · exact ⟨_, _, rfl⟩
    go_wp2
    go_loop [4, 5, 7] (fun a b i => a = .slice none 0 0 ∧ b = .slice none 0 0 ∧ i = .int .i64 0) (fun _ _ _ => 0)
    case atStart => exact ⟨rfl, rfl, rfl⟩
    case round =>
      obtain ⟨rfl, rfl, rfl⟩ := hrel
      go_wp2
      go_ret2
      exact ⟨_, _, [], [], rfl, hfin (Runs.start []) (by simp), World.ownsRow_nil _ _ _ _, World.ownsRow_nil _ _ _ _, hbel1⟩
  · rcases hva.2 with ⟨_, h0⟩ | ⟨g, cp, cur, hv, hg, hgb, hn1, hn2, hn3, hn4⟩
    · exact absurd (List.length_eq_zero_iff.1 h0) hs0
    have hgl : g < w1.heap.size := (Array.getElem?_eq_some_iff.1 hgb).1
    have hka : KeysAt w1 g 0 s := keysAt_of_block hgb hn4
    subst hv
    clear hva hgb hn1 hn2 hn3 hn4 hs0
    go_wp2
    go_loopw [4, 5, 7] (fun a b i wr => ∃ (k : Nat) (ks : List Ky) (ms : List Int), k ≤ s.length ∧ i = .int .i64 k ∧ Runs s k ks ms ∧ OwnK wr w1.heap.size a ks ∧ OwnN wr w1.heap.size b ms ∧ Below w1.heap.size w1 wr) (fun _ _ i _ => s.length - (intOf i).toNat)
    case atStart => exact ⟨0, [], [], by omega, rfl, Runs.start _, World.ownsRow_nil _ _ _ _, World.ownsRow_nil _ _ _ _, Below.refl _ _⟩
    case round =>
      rename World => w0
      obtain ⟨k, ks, ms, hk, rfl, hR, hok, hon, hbr⟩ := hrel
      have hsz0 := hbr.size
      by_cases hlt : k < s.length
      · obtain ⟨⟨ya, yb⟩, hy⟩ := getSome hlt
        obtain ⟨c0, c1⟩ := hka.below hbr hgl k _ hy
        rw [Nat.zero_add] at c0 c1
        simp only at c0 c1
        have hgd := guardK
        obtain ⟨hkl, hml⟩ := hR.len
        by_cases hk0 : k = 0
        · have hd : decide ((0 : Int) < (k : Int)) = false := by simp; omega
          have hd2 : decide (0 < k) = false := by simp; omega
          have HNEW : Hid (Runs s (k + 1) (ks ++ [(ya, yb)]) (ms ++ [1])) := hR.new hy (by rw [hk0]; simp)
          clear hR hk0 hfin
          go_wp2
          go_quiet (fail)
          have hbr1 : Below w1.heap.size w1 (w0.drewN nq) := ⟨hbr.os, hbr.tape, hbr.output, hbr.size, hbr.block⟩
          have hok1 : OwnK (w0.drewN nq) w1.heap.size _ ks := hok
          have hon1 : OwnN (w0.drewN nq) w1.heap.size _ ms := hon
          have c2 : (w0.drewN nq).cell? ⟨g, k * 2, none⟩ = some (.int .i64 ya) := c0
          have c3 : (w0.drewN nq).cell? ⟨g, k * 2 + 1, none⟩ = some (.string yb) := c1
          clear hbr hok hon c0 c1
          generalize w0.drewN nq = w2 at hbr1 hok1 hon1 c2 c3 ⊢
          have hsz2 := hbr1.size
          go_wp2_with (at_builtin; refine wpList_append_own _ rfl _ _ 94 rfl w1.heap.size 52 i0 _ 2 24 Try.underlying94 hi hz0 hz1 hz2 rfl (by decide) _ _ _ rfl (hok1.alloc _) ⟨w2.heap.size, 0, none⟩ 1 1 [.int .i64 ya, .string yb] rfl rfl (cell_key_new _ _ _ _) (key_cells _ _) ?c3 ?c4 ?c5 ?_)
          case c3 => unfold maxLen; omega
          case c4 => omega
          case c5 => first | omega | (simp; omega)
          intro v3 w3 hown3 hgrow3 _
          have hok3 : OwnK w3 w1.heap.size v3 (ks ++ [(ya, yb)]) := OwnK.snoc (x := (ya, yb)) hown3 rfl
          have hon3 : OwnN w3 w1.heap.size _ ms := (hon1.alloc _).kept hgrow3 (apart_symm (rows_apart hok1 hon1))
          have hbr3 : Below w1.heap.size w1 w3 := (hbr1.alloc hsz2 _).grown hgrow3 (by simp; omega) (own_row hok1)
          clear hown3 hgrow3 hok1 hon1 hbr1 c2 c3 hsz2
          have hsz3 := hbr3.size
          go_wp2_with (at_builtin; refine wpList_append_own _ rfl _ _ 95 rfl w1.heap.size 3 i1 _ 1 8 Try.underlying95 hj hy0 hy1 hy2 rfl (by decide) _ _ _ rfl (hon3.alloc _) ⟨w3.heap.size, 0, none⟩ 1 1 [.int .i64 1] rfl rfl (cell_one_new _ _ _) (ints_oneCell .i64 [1]) ?c3 ?c4 ?c5 ?_)
          case c3 => unfold maxLen; omega
          case c4 => omega
          case c5 => first | omega | (simp; omega)
          intro v4 w4 hown4 hgrow4 _
          have hon4 : OwnN w4 w1.heap.size v4 (ms ++ [1]) := OwnN.snoc hown4 (by first | rfl | omega)
          have hok4 : OwnK w4 w1.heap.size v3 (ks ++ [(ya, yb)]) := (hok3.alloc _).kept hgrow4 (rows_apart hok3 hon3)
          have hbr4 : Below w1.heap.size w1 w4 := (hbr3.alloc hsz3 _).grown hgrow4 (by simp; omega) (own_row hon3)
          clear hown4 hgrow4 hok3 hon3 hbr3 hsz3
          go_wp2
          go_roundw
          case rel => exact ⟨k + 1, _, _, by omega, by go_num, HNEW.out, hok4, hon4, hbr4⟩
          case measure => simp [intOf]; omega
        · obtain ⟨p, rfl⟩ : ∃ p, k = p + 1 := ⟨k - 1, by omega⟩
          obtain ⟨⟨za, zb⟩, hz⟩ := getSome (l := s) (i := p) (by omega)
          obtain ⟨d0, d1⟩ := hka.below hbr hgl p _ hz
          rw [Nat.zero_add] at d0 d1
          simp only at d0 d1
          have hwp : IntKind.i64.wrap (p : Int) = p := wrapN p (by omega)
          have hp0 : (0 : Int) ≤ p := by omega
          have hps : (p : Int) < s.length := by omega
          have hk1 : (0 : Int) ≤ ((p + 1 : Nat) : Int) := by omega
          have hks : ((p + 1 : Nat) : Int) < s.length := by omega
          have hd : decide ((0 : Int) < ((p + 1 : Nat) : Int)) = true := by simp
          have heq := eqK ya za yb zb
          by_cases he : (ya, yb) = (za, zb)
          · cases he
            rw [eqB_self] at heq
            obtain ⟨ks', ms', m, rfl, rfl⟩ := hR.2 p _ rfl hz
            obtain ⟨hm0, hm1⟩ := hR.bound
            have HNEW : Hid (Runs s (p + 1 + 1) (ks' ++ [(ya, yb)]) (ms' ++ [m + 1])) := hR.more hy
            have hlm : ms'.length + 1 ≤ 100001 := by simp at hml hkl; omega
            rcases hon.2 with ⟨_, h0⟩ | ⟨gm, capm, cur2, hvm, hgm, _⟩
            · simp at h0
            rw [show (ms' ++ [m]).length = ms'.length + 1 by simp] at hvm
            subst hvm
            clear hR hfin hkl hml
            go_wp2
            go_quiet (fail)
            have hbr1 : Below w1.heap.size w1 (w0.drewN nq) := ⟨hbr.os, hbr.tape, hbr.output, hbr.size, hbr.block⟩
            have hok1 : OwnK (w0.drewN nq) w1.heap.size _ (ks' ++ [(ya, yb)]) := hok
            have hon1 : OwnN (w0.drewN nq) w1.heap.size _ (ms' ++ [m]) := hon
            clear hbr hok hon c0 c1 d0 d1
            generalize w0.drewN nq = w2 at hbr1 hok1 hon1 ⊢
            obtain ⟨m0, m1⟩ := OwnN.last hon1
            have hset := OwnN.set (x := m + 1) hon1
            have hok2 := hok1.kept (grownBy_set w2 gm ms'.length (.int .i64 (m + 1))) (rows_apart hok1 hon1)
            have hbr2 : Below w1.heap.size w1 (w2.setCell ⟨gm, ms'.length, none⟩ (.int .i64 (m + 1))) := hbr1.setCell hgm _
            clear hbr1 hok1 hon1
            go_wp2
            go_roundw
            case rel => exact ⟨p + 1 + 1, _, _, by omega, by go_num, HNEW.out, hok2, hset, hbr2⟩
            case measure => simp [intOf]; omega
          · have he' : eqB (ya, yb) (za, zb) = false := by simpa [eqB] using he
            rw [he'] at heq
            have HNEW : Hid (Runs s (p + 1 + 1) (ks ++ [(ya, yb)]) (ms ++ [1])) := hR.new hy (run_new hS.2 hz hy he)
            clear hR hfin he he'
            go_wp2
            go_quiet (fail)
            have hbr1 : Below w1.heap.size w1 (w0.drewN nq) := ⟨hbr.os, hbr.tape, hbr.output, hbr.size, hbr.block⟩
            have hok1 : OwnK (w0.drewN nq) w1.heap.size _ ks := hok
            have hon1 : OwnN (w0.drewN nq) w1.heap.size _ ms := hon
            have c2 : (w0.drewN nq).cell? ⟨g, (p + 1) * 2, none⟩ = some (.int .i64 ya) := c0
            have c3 : (w0.drewN nq).cell? ⟨g, (p + 1) * 2 + 1, none⟩ = some (.string yb) := c1
            clear hbr hok hon c0 c1
            generalize w0.drewN nq = w2 at hbr1 hok1 hon1 c2 c3 ⊢
            have hsz2 := hbr1.size
            go_wp2_with (at_builtin; refine wpList_append_own _ rfl _ _ 94 rfl w1.heap.size 52 i0 _ 2 24 Try.underlying94 hi hz0 hz1 hz2 rfl (by decide) _ _ _ rfl (hok1.alloc _) ⟨w2.heap.size, 0, none⟩ 1 1 [.int .i64 ya, .string yb] rfl rfl (cell_key_new _ _ _ _) (key_cells _ _) ?c3 ?c4 ?c5 ?_)
            case c3 => unfold maxLen; omega
            case c4 => omega
            case c5 => first | omega | (simp; omega)
            intro v3 w3 hown3 hgrow3 _
            have hok3 : OwnK w3 w1.heap.size v3 (ks ++ [(ya, yb)]) := OwnK.snoc (x := (ya, yb)) hown3 rfl
            have hon3 : OwnN w3 w1.heap.size _ ms := (hon1.alloc _).kept hgrow3 (apart_symm (rows_apart hok1 hon1))
            have hbr3 : Below w1.heap.size w1 w3 := (hbr1.alloc hsz2 _).grown hgrow3 (by simp; omega) (own_row hok1)
            clear hown3 hgrow3 hok1 hon1 hbr1 c2 c3 hsz2
            have hsz3 := hbr3.size
            go_wp2_with (at_builtin; refine wpList_append_own _ rfl _ _ 95 rfl w1.heap.size 3 i1 _ 1 8 Try.underlying95 hj hy0 hy1 hy2 rfl (by decide) _ _ _ rfl (hon3.alloc _) ⟨w3.heap.size, 0, none⟩ 1 1 [.int .i64 1] rfl rfl (cell_one_new _ _ _) (ints_oneCell .i64 [1]) ?c3 ?c4 ?c5 ?_)
            case c3 => unfold maxLen; omega
            case c4 => omega
            case c5 => first | omega | (simp; omega)
            intro v4 w4 hown4 hgrow4 _
            have hon4 : OwnN w4 w1.heap.size v4 (ms ++ [1]) := OwnN.snoc hown4 (by first | rfl | omega)
            have hok4 : OwnK w4 w1.heap.size v3 (ks ++ [(ya, yb)]) := (hok3.alloc _).kept hgrow4 (rows_apart hok3 hon3)
            have hbr4 : Below w1.heap.size w1 w4 := (hbr3.alloc hsz3 _).grown hgrow4 (by simp; omega) (own_row hon3)
            clear hown4 hgrow4 hok3 hon3 hbr3 hsz3
            go_wp2
            go_roundw
            case rel => exact ⟨p + 1 + 1, _, _, by omega, by go_num, HNEW.out, hok4, hon4, hbr4⟩
            case measure => simp [intOf]; omega
      · have hlt' : s.length ≤ k := by omega
        go_wp2
        go_ret2
        exact ⟨_, _, ks, ms, rfl, hfin hR hlt', hok.base hsz1, hon.base hsz1, hbel1.trans (hbr.mono hsz1)⟩
end Go.Proofs.Yticpaemmdfmbfaa
