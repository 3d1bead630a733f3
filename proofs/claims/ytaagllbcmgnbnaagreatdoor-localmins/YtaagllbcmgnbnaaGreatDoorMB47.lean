/- Texts laid together: WKCount, WNs, WRJn, WRunsEq, WWipe, LawWJ, WMay. -/
import Derived.Test.YtaagllbcmgnbnaaGreatDoorMB46
import Derived.Test.YtaagllbcmgnbnaaGreatDoorMB7
import Derived.Test.YtaagllbcmgnbnaaGreatDoorMB13
import Derived.Test.YtaagllbcmgnbnaaGreatDoorMB45
import Derived.Test.YtaagllbcmgnbnaaGreatDoorMB37
import Derived.Test.YtaagllbcmgnbnaaGreatDoorMB27
import Derived.Test.YtaagllbcmgnbnaaGreatDoorMB34
import Derived.Deep.CutBlock
import Derived.Test.YtaagllbcmgnbnaaGreatDoorMB26
/- The page's own Count. -/
namespace Go.Proofs.YtaagllbcmgnbnaaGreatDoor
open Go.RowKit Go.Deep
set_option linter.unusedVariables false
set_option maxRecDepth 100000

theorem OwnN.base {w : World} {base base' : Nat} {v : Value} {l : List Int} (h : OwnN w base v l) (hb : base' ≤ base) : OwnN w base' v l := by
  refine ⟨h.1, ?_⟩
  rcases h.2 with ⟨h1, h2⟩ | ⟨g, cap, cur, h1, h2, h3⟩
  · exact .inl ⟨h1, h2⟩
  · exact .inr ⟨g, cap, cur, h1, Nat.le_trans hb h2, h3⟩
/-- How the counts stand behind k keys of s. -/
def Runs (s : List Ky) (k : Nat) (ks : List Ky) (ms : List Int) : Prop :=
  Cnt (s.take k) ks ms ∧ ∀ p z, k = p + 1 → s[p]? = some z → ∃ ks' ms' m, ks = ks' ++ [z] ∧ ms = ms' ++ [m]
theorem Runs.start (s : List Ky) : Runs s 0 [] [] := ⟨Cnt.nil, fun p z h => by omega⟩
theorem Runs.new {s : List Ky} {k : Nat} {ks : List Ky} {ms : List Int} {y : Ky} (h : Runs s k ks ms) (hy : s[k]? = some y) (hx : ∀ x ∈ s.take k, ltK x y = true) : Runs s (k + 1) (ks ++ [y]) (ms ++ [1]) := by
  refine ⟨?_, fun p z hp hz => ?_⟩
  · have e : s.take (k + 1) = s.take k ++ [y] := by rw [List.take_add_one, hy]; rfl
    rw [e]
    exact h.1.new hx
  · obtain rfl : k = p := by omega
    rw [hy] at hz
    injection hz with hz
    subst hz
    exact ⟨ks, ms, 1, rfl, rfl⟩
theorem Runs.bound {s : List Ky} {k : Nat} {ks : List Ky} {ms : List Int} {m : Int} (h : Runs s k ks (ms ++ [m])) : 0 ≤ m ∧ m ≤ s.length := by
  have e := h.1.2.2
  have hm : m ∈ ks.map fun x => (cnt (s.take k) x : Int) := by rw [← e]; simp
  obtain ⟨x, _, rfl⟩ := List.mem_map.1 hm
  have := cnt_le (s.take k) x
  simp at this ⊢
  omega
theorem Runs.len {s : List Ky} {k : Nat} {ks : List Ky} {ms : List Int} (h : Runs s k ks ms) : ks.length ≤ s.length ∧ ms.length = ks.length := by
  have h1 := h.1.le
  have h2 := h.1.length
  simp at h1
  exact ⟨by omega, h2⟩

end Go.Proofs.YtaagllbcmgnbnaaGreatDoor
/- Rows that lie anywhere, appended to rows of one's own. -/
namespace Go.Proofs.YtaagllbcmgnbnaaGreatDoor
open Go.RowKit
set_option linter.unusedVariables false
set_option maxRecDepth 100000

/-- One by one, read in the world w. -/
def AllN (w : World) (xs : List Raw) (l : List Rw) : Prop := xs.length = l.length ∧ ∀ (i : Nat) (x : Raw) (r : Rw), xs[i]? = some x → l[i]? = some r → x.1 = r.1 ∧ x.2.1 = r.2.1 ∧ x.2.2.2.1 = r.2.2.length ∧ NS w (slV x.2.2) r.2.2
theorem AllN.nil (w : World) : AllN w [] [] := ⟨rfl, fun i x r h => by simp at h⟩
theorem AllN.one {w : World} {k : Ky} {n : Int} {l : List Int} {s : Option Addr} {p : Nat} (h : NS w (.slice s l.length p) l) : AllN w [(k, n, (s, l.length, p))] [(k, (n, l))] := ⟨rfl, fun i x r h1 h2 => by
  match i, h1, h2 with
  | 0, h1, h2 => simp at h1 h2; subst h1 h2; exact ⟨rfl, rfl, rfl, h⟩⟩
/-- Rows of the call's own, whose sets lie where they lay when it began. -/
def OwnA (w0 w : World) (v : Value) (l : List Rw) : Prop := ∃ xs, OwnX w w0.heap.size v xs ∧ AllN w0 xs l
theorem OwnA.nil (w0 w : World) : OwnA w0 w (.slice none 0 0) [] := ⟨[], World.ownsRow_nil _ _ _ _, AllN.nil _⟩
theorem OwnA.ws {w0 w : World} {v : Value} {l : List Rw} (h : OwnA w0 w v l) (hb : Below w0.heap.size w0 w) : WS w v l := by
  obtain ⟨xs, hx, ha⟩ := h
  have hx0 := hx
  rcases hx.2 with ⟨rfl, h0⟩ | ⟨g, cap, cur, rfl, _, _⟩
  · have : xs = [] := List.length_eq_zero_iff.1 h0
    subst this
    have : l = [] := List.length_eq_zero_iff.1 ha.1.symm
    subst this
    exact ⟨none, 0, rfl, .inl rfl⟩
  · obtain ⟨h1, -, -, h2⟩ := hx0.cell
    refine ⟨_, cap, by rw [ha.1], .inr ⟨g, 0, rfl, h1, fun i r hr => ?_⟩⟩
    have hi : i < l.length := (List.getElem?_eq_some_iff.1 hr).1
    obtain ⟨x, hx'⟩ := getSome (l := xs) (i := i) (by rw [ha.1]; exact hi)
    obtain ⟨q0, q1, q2, q3⟩ := flatW_get xs i x hx'
    obtain ⟨ek, en, el, es⟩ := ha.2 i x r hx' hr
    obtain ⟨xk, xn, xa, xl, xc⟩ := x
    simp only at ek en el es q0 q1 q2 q3
    subst ek en el
    refine ⟨?_, ?_, ?_, xa, xc, ?_, es.below hb⟩
    · rw [Nat.zero_add]; exact h2 _ _ q0
    · rw [Nat.zero_add]; exact h2 _ _ q1
    · rw [Nat.zero_add]; exact h2 _ _ q2
    · rw [Nat.zero_add]; exact h2 _ _ q3
end Go.Proofs.YtaagllbcmgnbnaaGreatDoor
/- The page's own Rows, distinct, JoinRows. -/
namespace Go.Proofs.YtaagllbcmgnbnaaGreatDoor
open Go.RowKit
set_option linter.unusedVariables false
set_option maxRecDepth 100000
end Go.Proofs.YtaagllbcmgnbnaaGreatDoor
/- Runs of rows compared. -/
namespace Go.Proofs.YtaagllbcmgnbnaaGreatDoor
open Go.RowKit
set_option linter.unusedVariables false
set_option maxRecDepth 100000
end Go.Proofs.YtaagllbcmgnbnaaGreatDoor
/- Rows of one's own, written over: thresherlaw0.Rows. -/
namespace Go.Proofs.YtaagllbcmgnbnaaGreatDoor
open Go.RowKit
set_option linter.unusedVariables false

/-- A set's slice: empty, or a row of numbers of the call's own. -/
def SetOk (w : World) (base : Nat) (s : Sl) : Prop := s.2.1 = 0 ∨ ∃ (g : Nat) (cur : Array Value), s.1 = some ⟨g, 0, none⟩ ∧ base ≤ g ∧ w.heap[g]? = some (.cells cur 2 (0, 0)) ∧ s.2.1 ≤ cur.size
theorem SetOk.own {w : World} {base : Nat} {s : Sl} {l : List Int} (h : OwnL w base (slV s) l) : SetOk w base s := by
  obtain ⟨sa, sn, sc⟩ := s
  rcases h.2 with ⟨h1, h2⟩ | ⟨g, cap, cur, h1, hg, hb, hn, hm, hs, ht⟩
  · injection h1 with e1 e2 e3
    exact .inl e2
  · injection h1 with e1 e2 e3
    subst e1 e2
    exact .inr ⟨g, cur, rfl, hg, hb, by simp only; omega⟩
/-- What lies there while it is written over. -/
structure Wip (w : World) (base : Nat) (g n cap : Nat) (xs : List Raw) : Prop where
  own : OwnX w base (.slice (some ⟨g, 0, none⟩) n cap) xs
  sets : ∀ x ∈ xs, SetOk w base x.2.2
theorem Wip.block {w : World} {base g n cap : Nat} {xs : List Raw} (h : Wip w base g n cap xs) : base ≤ g ∧ n = xs.length ∧ ∃ cur : Array Value, w.heap[g]? = some (.cells cur 82 (0, 0)) ∧ xs.length * 4 ≤ cur.size ∧ cur.toList.take (xs.length * 4) = flatW xs := by
  rcases h.own.2 with ⟨h1, _⟩ | ⟨g', cap', cur, h1, hg, hb, hn, hm, hs, ht⟩
  · cases h1
  · injection h1 with e1 e2 e3
    injection e1 with e1
    injection e1 with e1
    subst e1 e2 e3
    exact ⟨hg, rfl, cur, hb, by omega, ht⟩
theorem Wip.cells {w : World} {base g n cap p : Nat} {xs : List Raw} {x : Raw} (h : Wip w base g n cap xs) (hx : xs[p]? = some x) :
    w.cell? ⟨g, p * 4, none⟩ = some (.int .i64 x.1.1) ∧ w.cell? ⟨g, p * 4 + 1, none⟩ = some (.string x.1.2) ∧ w.cell? ⟨g, p * 4 + 2, none⟩ = some (.int .i64 x.2.1) ∧ w.cell? ⟨g, p * 4 + 3, none⟩ = some (slV x.2.2) ∧ ∀ q, w.frozen? ⟨g, q, none⟩ = false := by
  obtain ⟨-, -, cur, hb, -, -⟩ := h.block
  obtain ⟨q0, q1, q2, q3⟩ := flatW_get xs p x hx
  obtain ⟨-, -, -, hc⟩ := h.own.cell
  exact ⟨hc _ _ q0, hc _ _ q1, hc _ _ q2, hc _ _ q3, fun q => by simp [World.frozen?, hb]⟩
end Go.Proofs.YtaagllbcmgnbnaaGreatDoor
namespace Go.Proofs.YtaagllbcmgnbnaaGreatDoor
open Go.RowKit
set_option linter.unusedVariables false
set_option maxRecDepth 100000
end Go.Proofs.YtaagllbcmgnbnaaGreatDoor
/- thresherlaw10.RowJoins: its walk. -/
namespace Go.Proofs.YtaagllbcmgnbnaaGreatDoor
open Go.RowKit
set_option linter.unusedVariables false
set_option maxRecDepth 100000

theorem LLS.take {w : World} {a : Option Addr} {cap : Nat} {L : List (List Rw)} (h : LLS w (.slice a L.length cap) L) (n : Nat) (hn : n ≤ L.length) : RnS w (.slice a n cap) (L.take n) := by
  obtain ⟨a0, c0, e, h⟩ := h
  injection e with e1 e2 e3
  subst e1
  refine ⟨a, cap, by rw [List.length_take, Nat.min_eq_left hn], ?_⟩
  rcases h with rfl | ⟨b, off, rfl, hb, hat⟩
  · exact .inl (by simp)
  · refine .inr ⟨b, off, rfl, hb, fun i l hl => hat i l ?_⟩
    have hi := (List.getElem?_eq_some_iff.1 hl).1
    rw [List.length_take] at hi
    rwa [List.getElem?_take_of_lt (by omega)] at hl
theorem RnS.below {w w' : World} {v : Value} {L : List (List Rw)} (h : RnS w v L) (hb : Below w.heap.size w w') : RnS w' v L := by
  obtain ⟨a, cap, rfl, h⟩ := h
  refine ⟨a, cap, rfl, ?_⟩
  rcases h with h | ⟨b, off, rfl, hlt, h⟩
  · exact .inl h
  · exact .inr ⟨b, off, rfl, Nat.lt_of_lt_of_le hlt hb.size, RunsC.below (B := 0) h hb hlt⟩
end Go.Proofs.YtaagllbcmgnbnaaGreatDoor
/- The page's own MayFold. -/
namespace Go.Proofs.YtaagllbcmgnbnaaGreatDoor
open Go.RowKit
set_option linter.unusedVariables false
set_option maxRecDepth 100000
end Go.Proofs.YtaagllbcmgnbnaaGreatDoor
