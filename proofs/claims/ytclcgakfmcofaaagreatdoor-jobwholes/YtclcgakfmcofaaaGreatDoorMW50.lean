/- Texts laid together: JLawA, JRd, JTkA, JRWith, JCopy, JSpl, JCpy, JEqC, JReg, JErr, JRJob, JRVal. -/
import Derived.Test.YtclcgakfmcofaaaGreatDoorMW48
import Derived.Test.YtclcgakfmcofaaaGreatDoorMW49
import Derived.Test.YtclcgakfmcofaaaGreatDoorMW28
import Derived.Test.YtclcgakfmcofaaaGreatDoorMW10
import Derived.Test.YtclcgakfmcofaaaGreatDoorMW2
import Derived.Test.YtclcgakfmcofaaaGreatDoorMW29
import Derived.Test.YtclcgakfmcofaaaGreatDoorMW46
import Derived.Test.YtclcgakfmcofaaaGreatDoorMW27
import Derived.Test.YtclcgakfmcofaaaGreatDoorMW39
import Derived.Test.YtclcgakfmcofaaaGreatDoorMW25
import Derived.Test.YtclcgakfmcofaaaGreatDoorMW44
import Derived.Test.YtclcgakfmcofaaaGreatDoorMW26
import Derived.Test.YtclcgakfmcofaaaGreatDoorMW23
import Derived.Test.YtclcgakfmcofaaaGreatDoorMW22
set_option linter.unusedVariables false
set_option maxRecDepth 100000
set_option maxHeartbeats 3200000
namespace Go.Proofs.YtclcgakfmcofaaaGreatDoor
open Go.RowKit
structure L14 (w W0 : World) (c : aX) (vp vl vj : Value) (L : List Jl) (x : ByteArray) : Prop where
 ask : ∀ W, Below W0.heap.size W0 W → A14 w W c vp vl vj x
 js : ∀ W, Below W0.heap.size W0 W → JS W vj L
 cfg : ∀ W, Below W0.heap.size W0 W → nG W c vp
 env : ∀ W, Below W0.heap.size W0 W → iu W
 hal : ∀ W, Below W0.heap.size W0 W → bI W
 low : Below w.heap.size w W0
 pos : 0 < W0.heap.size
theorem L14.start {w : World} {c : aX} {vp vl vj : Value} {ids : List Int} {L : List Jl} {x : ByteArray} (h : In14 w c vp vl vj ids L x) (hE : iu w) (hH : bI w) : L14 w (w.alloc (jg c vp vl vj x)) c vp vl vj L x := by
 have hb0 := dN w (jg c vp vl vj x)
 exact ⟨A14.start w c vp vl vj x, fun W hW => (h.js.below hb0).below hW, fun W hW => (h.s.cfg.below hb0).below hW, fun W hW => (hE.low hb0).low hW, fun W hW => (hH.below hb0 hH.pos).below hW (by have := hH.pos; have := hb0.size; omega), hb0, by have := hH.pos; have := hb0.size; omega⟩
structure JC (W : World) (b o : Nat) (y : Jl) (ua : Option Addr) (uc : Nat) : Prop where
 c0 : W.cell? ⟨b, o, none⟩ = some (.int .i64 y.1.id)
 c1 : W.cell? ⟨b, o + 1, none⟩ = some (.string y.1.prog)
 c2 : W.cell? ⟨b, o + 2, none⟩ = some (.int .i64 y.1.agg)
 c3 : W.cell? ⟨b, o + 3, none⟩ = some (.int .i64 y.1.bound)
 c4 : W.cell? ⟨b, o + 4, none⟩ = some (.int .i64 y.1.fuel)
 c5 : W.cell? ⟨b, o + 5, none⟩ = some (.slice ua y.2.length uc)
 c6 : W.cell? ⟨b, o + 6, none⟩ = some (.int .i64 y.1.parts)
theorem JC.at {W : World} {b off i : Nat} {L : List Jl} {y : Jl} (h : JbsAt W b off L) (hy : L[i]? = some y) (hb : b < W.heap.size) : ∃ ua uc, ∀ W', Below W.heap.size W W' → JC W' b (off + i * 7) y ua uc ∧ NS W' (.slice ua y.2.length uc) y.2 := by
 obtain ⟨ua, uc, c0, c1, c2, c3, c4, c5, c6, hn⟩ := h i y hy
 exact ⟨ua, uc, fun W' hW => ⟨⟨(hW.cell (p := ⟨b, _, none⟩) hb).trans c0, (hW.cell (p := ⟨b, _, none⟩) hb).trans c1, (hW.cell (p := ⟨b, _, none⟩) hb).trans c2, (hW.cell (p := ⟨b, _, none⟩) hb).trans c3, (hW.cell (p := ⟨b, _, none⟩) hb).trans c4, (hW.cell (p := ⟨b, _, none⟩) hb).trans c5, (hW.cell (p := ⟨b, _, none⟩) hb).trans c6⟩, hn.below hW⟩⟩
section
variable {T : TypeId} {w W W' : World} {s s' : Rd} {j : Jb} {u : Value}
end
theorem below7 {w W : World} {b : Nat} (h : Below w.heap.size w W) (hb : w.heap.size ≤ b) (y0 y1 y2 y3 y4 y5 y6 : Value) : Below w.heap.size w (((((((W.setCell ⟨b, 0, none⟩ y0).setCell ⟨b, 1, none⟩ y1).setCell ⟨b, 2, none⟩ y2).setCell ⟨b, 3, none⟩ y3).setCell ⟨b, 4, none⟩ y4).setCell ⟨b, 5, none⟩ y5).setCell ⟨b, 6, none⟩ y6) :=
 ((((((h.setCell (p := ⟨b, 0, none⟩) hb y0).setCell (p := ⟨b, 1, none⟩) hb y1).setCell (p := ⟨b, 2, none⟩) hb y2).setCell (p := ⟨b, 3, none⟩) hb y3).setCell (p := ⟨b, 4, none⟩) hb y4).setCell (p := ⟨b, 5, none⟩) hb y5).setCell (p := ⟨b, 6, none⟩) hb y6
theorem own7 {W : World} {b B : Nat} {v : Value} {l : List Int} (h : aM W B v l) (hb : b < B) (y0 y1 y2 y3 y4 y5 y6 : Value) : aM (((((((W.setCell ⟨b, 0, none⟩ y0).setCell ⟨b, 1, none⟩ y1).setCell ⟨b, 2, none⟩ y2).setCell ⟨b, 3, none⟩ y3).setCell ⟨b, 4, none⟩ y4).setCell ⟨b, 5, none⟩ y5).setCell ⟨b, 6, none⟩ y6) B v l :=
 ((((((h.grown (aq _ b _ y0) hb).grown (aq _ b _ y1) hb).grown (aq _ b _ y2) hb).grown (aq _ b _ y3) hb).grown (aq _ b _ y4) hb).grown (aq _ b _ y5) hb).grown (aq _ b _ y6) hb
theorem ins_end : ∀ {n : Int} {a : List Int}, (∀ z ∈ a, z < n) → jm n a = a ++ [n]
 | n, [], _ => rfl
 | n, y :: a, h => by
  have hy := h y (by simp)
  unfold jm
  rw [if_neg (by omega), if_neg (by omega), ins_end (fun z hz => h z (by simp [hz]))]
  rfl
theorem ins_lt : ∀ {n x : Int} {a : List Int}, (∀ z ∈ a, z < n) → n < x → jm n (a ++ [x]) = a ++ [n] ++ [x]
 | n, x, [], _, hx => by
  show jm n [x] = [n, x]
  unfold jm
  rw [if_pos hx]
 | n, x, y :: a, h, hx => by
  have hy := h y (by simp)
  show jm n (y :: (a ++ [x])) = y :: (a ++ [n] ++ [x])
  unfold jm
  rw [if_neg (by omega), if_neg (by omega), ins_lt (fun z hz => h z (by simp [hz])) hx]
theorem ins_mid : ∀ {n x : Int} {a : List Int}, (∃ z ∈ a, n < z) → jm n (a ++ [x]) = jm n a ++ [x]
 | n, x, [], h => by obtain ⟨z, hz, -⟩ := h; simp at hz
 | n, x, y :: a, h => by
  show jm n (y :: (a ++ [x])) = jm n (y :: a) ++ [x]
  unfold jm
  by_cases h1 : n < y
  ·rw [if_pos h1, if_pos h1]; rfl
  ·rw [if_neg h1, if_neg h1]
   by_cases h2 : n = y
   ·rw [if_pos h2, if_pos h2]; rfl
   ·rw [if_neg h2, if_neg h2]
    obtain ⟨z, hz, hn⟩ := h
    rcases List.mem_cons.1 hz with rfl | hz
    ·exact absurd hn h1
    ·rw [ins_mid ⟨z, hz, hn⟩]; rfl
theorem ins_in : ∀ {n : Int} {a : List Int}, bl a → n ∈ a → jm n a = a := fun {n a} hr hn => gF (jr n a hr) hr fun z => by
 rw [jq]
 constructor
 ·rintro (rfl | h)
  ·exact hn
  ·exact h
 ·exact .inr
def CodS (w : World) (r : List Int) (e : Ending) (w' : World) : Prop := (∃ v', e = .returned v' ∧ aM w' w.heap.size v' r) ∧ Below w.heap.size w w'
theorem gW {W : World} {base : Nat} {v : Value} {l : List Int} {n : Int} (ho : aM W base v l) (hl : l.length ≤ 100000) (hb : base ≤ W.heap.size) :
  ∃ v4 W4, (Builtin.append_ #[25, 25] 25 #[v, .slice (some ⟨W.heap.size, 0, none⟩) 1 1]).run Tryz.prog (W.alloc (.cells #[.int .i64 n] 3)) = .ok v4 W4 ∧ aM W4 base v4 (l ++ [n]) ∧ Below base W W4 := by
 have hal := dN W (.cells #[.int .i64 n] 3)
 obtain ⟨v4, W4, q1, q2, q3, -⟩ := kS 25 (ho.below hal) (ni W n) (by simp; omega) (Nat.le_trans hb hal.size)
 exact ⟨v4, W4, q1, q2, (hal.mono hb).grown q3 (Nat.le_trans hb hal.size) (nm ho)⟩
theorem ji (v : Value) (l : List Int) (w : World) (h : NS w v l) (hl : l.length ≤ 90000) : Calls Tryz.prog 49 #[v] w (CodS w l) := by
 obtain ⟨a, cap, rfl, hsh⟩ := h
 go_enter Tryz.func49, Tryz.ntmps49
 go_wp2
 go_loopw [3, 4] (fun u i wr => ∃ k : Nat, k ≤ l.length ∧ i = .int .i64 k ∧ aM wr w.heap.size u (l.take k) ∧ Below w.heap.size w wr) (fun _ i _ => l.length - (intOf i).toNat)
 case atStart => exact ⟨0, by omega, rfl, aM.nilI _ _, Below.refl _ _⟩
 case round =>
  rename World => w0
  obtain ⟨k, hk, rfl, hown, hbel⟩ := hrel
  have hlen : (l.take k).length ≤ 100000 := by rw [List.length_take]; omega
  obtain ⟨au, cu, rfl⟩ := hown.shape
  by_cases hlt : k < l.length
  ·obtain ⟨x, hx⟩ := ak hlt
   rcases hsh with hnil | ⟨b, off, rfl, hb, hat⟩
   ·rw [hnil] at hlt; simp at hlt
   have c0 := (hbel.cell (p := ⟨b, off + k, none⟩) hb).trans (hat k x hx)
   have hki : (k : Int) < (l.length : Int) := by omega
   have hk0 : (0 : Int) ≤ (k : Int) := by omega
   obtain ⟨v4, W4, q1, q2, q3⟩ := gW (n := x) hown hlen hbel.size
   have HST := ae (show l.take (k + 1) = l.take k ++ [x] by rw [List.take_add_one, hx]; rfl)
   have U1 := ae q1
   have HO := ae q2
   have HBB := ae (hbel.trans q3)
   clear hat hx q1 q2 q3 hown hbel hlen hb
   go_wp2_with (first
    | (at_builtin; refine wpList_append_run _ rfl _ _ _ rfl _ _ v4 W4 rfl rfl U1.out ?_))
   go_roundw
   case rel => exact ⟨k + 1, by omega, by go_num, by rw [HST.out]; exact HO.out, HBB.out⟩
   case measure => simp [intOf]; omega
  ·have hki : ¬ (k : Int) < (l.length : Int) := by omega
   have e5 : l.take k = l := List.take_of_length_le (by omega)
   rw [e5] at hown ⊢
   have HO := ae hown
   have HBB := ae hbel
   clear hown hbel e5 hlen
   go_wp2
   go_ret
   exact ⟨⟨_, rfl, HO.out⟩, HBB.out⟩
theorem rin_any (v : Value) (l : List Int) (x : Int) (w : World) (h : NS w v l) (hl : l.length ≤ 100000) :
  Calls Tryz.prog 27 #[v, .int .i64 x] w fun e w' => e = .returned (.int .i64 (gV l x)) ∧ w' = w := by
 obtain ⟨a, cap, rfl, hsh⟩ := h
 go_enter Tryz.func27, Tryz.ntmps27
 go_wp2
 go_loop [5] (fun i => ∃ k : Nat, k ≤ l.length ∧ i = .int .i64 k ∧ Hid (∀ z ∈ l.take k, z ≠ x)) (fun i => l.length - (intOf i).toNat)
 case atStart => exact ⟨0, by omega, rfl, fun z hz => by simp at hz⟩
 case round =>
  obtain ⟨k, hk, rfl, HN⟩ := hrel
  by_cases hlt : k < l.length
  ·obtain ⟨y, hy⟩ := ak hlt
   rcases hsh with hnil | ⟨b, off, rfl, hb, hat⟩
   ·rw [hnil] at hlt; simp at hlt
   have c0 := hat k y hy
   have hki : (k : Int) < (l.length : Int) := by omega
   have hk0 : (0 : Int) ≤ (k : Int) := by omega
   by_cases hyx : y = x
   ·have HF := ae (show gV l x = (k : Int) by unfold gV; rw [jh hy HN.out hyx])
    subst hyx
    have hbe : (y == y) = true := by simp
    clear hat hy
    go_wp2
    go_ret
    exact ⟨by rw [HF.out]; rfl, rfl⟩
   ·have hbe : (y == x) = false := by simp; exact fun h => hyx h
    have HN2 := ae (show ∀ z ∈ l.take (k + 1), z ≠ x from fun z hz => by
     rw [List.take_add_one, hy] at hz
     rcases List.mem_append.1 hz with hz | hz
     ·exact HN.out z hz
     ·simp at hz; subst hz; exact hyx)
    clear hat hy
    go_wp2
    go_round
    case rel => exact ⟨k + 1, by omega, by go_num, HN2⟩
    case measure => simp [intOf]; omega
  ·have hki : ¬ (k : Int) < (l.length : Int) := by omega
   have HF := ae (show gV l x = -1 by unfold gV; rw [nl (fun z hz => HN.out z (by rwa [List.take_of_length_le (by omega)]))])
   go_wp2
   go_ret
   exact ⟨by rw [HF.out]; rfl, rfl⟩
structure kW (n : Int) (a : List Int) (b : Bool) (m : List Int) : Prop where
 no : b = false → m = a ∧ ∀ z ∈ a, z < n
 yes : b = true → m = jm n a ∧ ∃ z ∈ a, n < z
theorem ins_len (n : Int) : ∀ a : List Int, (jm n a).length ≤ a.length + 1
 | [] => by simp [jm]
 | y :: a => by
  unfold jm
  split
  ·simp
  ·split
   ·simp
   ·have := ins_len n a; simp; omega
theorem kW.len {n : Int} {a m : List Int} {b : Bool} (h : kW n a b m) : m.length ≤ a.length + 1 := by
 cases b with
 | false => rw [(h.no rfl).1]; omega
 | true => rw [(h.yes rfl).1]; exact ins_len n a
theorem rwith_any (v : Value) (l : List Int) (n : Int) (w : World) (h : NS w v l) (hl : l.length ≤ 90000) (hr : bl l) : Calls Tryz.prog 65 #[v, .int .i64 n] w (CodS w (jm n l)) := by
 have HI := ae (rin_any v l n w h (by omega))
 have HC := ae (ji v l w h hl)
 have hin := idxI_in l n
 obtain ⟨a, cap, rfl, hsh⟩ := h
 by_cases hn : n ∈ l
 ·have HE := ae (ins_in hr hn)
  rw [decide_eq_true hn] at hin
  have hq := of_decide_eq_true hin
  generalize gV l n = q at HI hq
  clear hin hn hsh
  go_enter Tryz.func65, Tryz.ntmps65
  go_wp2_with fail
  refine HI.out.mono ?_
  rintro e w1 ⟨rfl, rfl⟩
  go_wp2_with fail
  refine HC.out.mono ?_
  rintro e W2 ⟨⟨v2, rfl, ho2⟩, hb2⟩
  have HO2 := ae ho2
  obtain ⟨a2, c2, rfl⟩ := ho2.shape
  clear ho2
  go_wp2
  go_ret
  exact ⟨⟨_, rfl, by rw [HE.out]; exact HO2.out⟩, hb2⟩
 ·rw [decide_eq_false hn] at hin
  have hq : ¬ 0 ≤ gV l n := of_decide_eq_false hin
  have hqd : decide (0 ≤ gV l n) = false := hin
  generalize gV l n = q at HI hq hqd
  have HNN := ae hn
  clear hin hn HC
  go_enter Tryz.func65, Tryz.ntmps65
  go_wp2_with fail
  refine HI.out.mono ?_
  rintro e w1 ⟨rfl, rfl⟩
  go_wp2
  go_loopw [5, 6, 7] (fun u g i wr => ∃ (k : Nat) (b : Bool) (m : List Int), k ≤ l.length ∧ i = .int .i64 k ∧ g = .bool b ∧ Hid (kW n (l.take k) b m) ∧ aM wr w1.heap.size u m ∧ Below w1.heap.size w1 wr) (fun _ _ i _ => l.length - (intOf i).toNat)
  case atStart => exact ⟨0, false, [], by omega, rfl, rfl, ⟨fun _ => ⟨rfl, fun z hz => by simp at hz⟩, fun h => by cases h⟩, aM.nilI _ _, Below.refl _ _⟩
  case round =>
   rename World => w0
   obtain ⟨k, b, m, hk, rfl, rfl, HT, hown, hbel⟩ := hrel
   have hml := HT.out.len
   rw [List.length_take, Nat.min_eq_left hk] at hml
   obtain ⟨au, cu, rfl⟩ := hown.shape
   by_cases hlt : k < l.length
   ·obtain ⟨x, hx⟩ := ak hlt
    rcases hsh with hnil | ⟨bb, off, rfl, hb, hat⟩
    ·rw [hnil] at hlt; simp at hlt
    have c0 := (hbel.cell (p := ⟨bb, off + k, none⟩) hb).trans (hat k x hx)
    have hki : (k : Int) < (l.length : Int) := by omega
    have hk0 : (0 : Int) ≤ (k : Int) := by omega
    have hst : l.take (k + 1) = l.take k ++ [x] := by rw [List.take_add_one, hx]; rfl
    have hxn : x ≠ n := fun e => HNN.out (by rw [← e]; exact List.mem_of_getElem? hx)
    obtain ⟨v4, W4, q1, q2, q3⟩ := gW (n := x) hown (by omega) hbel.size
    cases b with
    | true =>
     obtain ⟨e1, z, hz, hnz⟩ := HT.out.yes rfl
     have HT2 := ae (show kW n (l.take (k + 1)) true (m ++ [x]) from ⟨fun h => (by cases h), fun _ => ⟨by rw [hst, ins_mid ⟨z, hz, hnz⟩, e1], z, by rw [hst]; exact List.mem_append_left _ hz, hnz⟩⟩)
     have U1 := ae q1
     have HO := ae q2
     have HBB := ae (hbel.trans q3)
     clear hat hx q1 q2 q3 hown hbel hml hb e1 hz hnz hst hxn
     go_wp2_with (first
      | (at_builtin; refine wpList_append_run _ rfl _ _ _ rfl _ _ v4 W4 rfl rfl U1.out ?_))
     go_roundw
     case rel => exact ⟨k + 1, true, _, by omega, by go_num, rfl, HT2, HO.out, HBB.out⟩
     case measure => simp [intOf]; omega
    | false =>
     obtain ⟨e1, hall⟩ := HT.out.no rfl
     by_cases hgt : n < x
     ·have hd : decide (n < x) = true := decide_eq_true hgt
      obtain ⟨v5, W5, u1, u2, u3⟩ := gW (n := n) hown (by omega) hbel.size
      obtain ⟨m2, hm2⟩ : ∃ m2, m2 = m ++ [n] := ⟨_, rfl⟩
      have hml2 : m2.length ≤ 100000 := by rw [hm2, List.length_append]; simp; omega
      rw [← hm2] at u2
      have c1 := ((hbel.trans u3).cell (p := ⟨bb, off + k, none⟩) hb).trans (hat k x hx)
      obtain ⟨v6, W6, y1, y2, y3⟩ := gW (n := x) u2 hml2 (hbel.trans u3).size
      have HT2 := ae (show kW n (l.take (k + 1)) true (m2 ++ [x]) from ⟨fun h => (by cases h), fun _ => ⟨by rw [hm2, hst, ins_lt hall hgt, e1], x, by rw [hst]; simp, hgt⟩⟩)
      have U1 := ae u1
      have U2 := ae y1
      have HO := ae y2
      have HBB := ae ((hbel.trans u3).trans y3)
      obtain ⟨a5, c5, rfl⟩ := u2.shape
      clear hat hx q1 q2 q3 u1 u2 u3 y1 y2 y3 hown hbel hml hb e1 hst hxn hall hm2
      go_wp2_with (first
       | (at_builtin; refine wpList_append_run _ rfl _ _ _ rfl _ _ _ W5 rfl rfl U1.out ?_; clear U1)
       | (at_builtin; refine wpList_append_run _ rfl _ _ _ rfl _ _ v6 W6 rfl rfl U2.out ?_))
      go_roundw
      case rel => exact ⟨k + 1, true, _, by omega, by go_num, rfl, HT2, HO.out, HBB.out⟩
      case measure => simp [intOf]; omega
     ·have hd : decide (n < x) = false := decide_eq_false hgt
      have HT2 := ae (show kW n (l.take (k + 1)) false (m ++ [x]) from ⟨fun _ => ⟨by rw [hst, e1], fun z hz => by
       rw [hst] at hz
       rcases List.mem_append.1 hz with hz | hz
       ·exact hall z hz
       ·simp at hz; omega⟩, fun h => by cases h⟩)
      have U1 := ae q1
      have HO := ae q2
      have HBB := ae (hbel.trans q3)
      clear hat hx q1 q2 q3 hown hbel hml hb e1 hst hxn hall
      go_wp2_with (first
       | (at_builtin; refine wpList_append_run _ rfl _ _ _ rfl _ _ v4 W4 rfl rfl U1.out ?_))
      go_roundw
      case rel => exact ⟨k + 1, false, _, by omega, by go_num, rfl, HT2, HO.out, HBB.out⟩
      case measure => simp [intOf]; omega
   ·have hki : ¬ (k : Int) < (l.length : Int) := by omega
    have e5 : l.take k = l := List.take_of_length_le (by omega)
    rw [e5] at HT
    cases b with
    | true =>
     have HE := ae (HT.out.yes rfl).1
     have HO := ae hown
     have HBB := ae hbel
     clear hown hbel e5 hml
     go_wp2
     go_ret
     exact ⟨⟨_, rfl, by rw [← HE.out]; exact HO.out⟩, HBB.out⟩
    | false =>
     obtain ⟨e1, hall⟩ := HT.out.no rfl
     obtain ⟨v4, W4, q1, q2, q3⟩ := gW (n := n) hown (by omega) hbel.size
     obtain ⟨m2, hm2⟩ : ∃ m2, m2 = m ++ [n] := ⟨_, rfl⟩
     rw [← hm2] at q2
     have HE := ae (show m2 = jm n l by rw [hm2, ins_end hall, e1])
     have U1 := ae q1
     have HO := ae q2
     obtain ⟨a4, c4, rfl⟩ := q2.shape
     have HBB := ae (hbel.trans q3)
     clear q1 q2 q3 hown hbel e5 hml e1 hall hm2
     go_wp2_with (first
      | (at_builtin; refine wpList_append_run _ rfl _ _ _ rfl _ _ _ W4 rfl rfl U1.out ?_))
     go_ret
     exact ⟨⟨_, rfl, by rw [← HE.out]; exact HO.out⟩, HBB.out⟩
theorem eqjob_any (j : Jb) (l : List Int) (v u : Value) (w : World) (hv : NS w v l) (hu : NS w u l) (hl : l.length ≤ 17592186043904) : Calls Tryz.prog 13 #[cJ j v, cJ j u] w fun e w' => e = .returned (.bool true) ∧ Below w.heap.size w w' := by
 obtain ⟨va, vc, rfl, -⟩ := id hv
 obtain ⟨ua, uc, rfl, -⟩ := id hu
 obtain ⟨W0, hW0⟩ : ∃ W0 : World, W0 = (w.alloc (fQ j (.slice va l.length vc))).alloc (fQ j (.slice ua l.length uc)) := ⟨_, rfl⟩
 have hb0 : Below w.heap.size w W0 := by rw [hW0]; exact ag (dN _ _) (dN _ _)
 have B0 : aG W0 w.heap.size (.int .i64 j.id) (.string j.prog) (.int .i64 j.agg) (.int .i64 j.bound) (.int .i64 j.fuel) (.slice va l.length vc) (.int .i64 j.parts) := by rw [hW0]; exact (aG.new w _ _ _ _ _ _ _).below (dN _ _)
 have B1 : aG W0 (w.heap.size + 1) (.int .i64 j.id) (.string j.prog) (.int .i64 j.agg) (.int .i64 j.bound) (.int .i64 j.fuel) (.slice ua l.length uc) (.int .i64 j.parts) := by rw [hW0]; simpa using aG.new (w.alloc (fQ j (.slice va l.length vc))) (.int .i64 j.id) (.string j.prog) (.int .i64 j.agg) (.int .i64 j.bound) (.int .i64 j.fuel) (.slice ua l.length uc) (.int .i64 j.parts)
 have HE := ae (jd _ _ l W0 (hv.below hb0) (hu.below hb0) hl)
 have HF := ae (show ∀ W, Below W0.heap.size W0 W → W.cell? ⟨w.heap.size, 6, none⟩ = some (.int .i64 j.parts) ∧ W.cell? ⟨w.heap.size + 1, 6, none⟩ = some (.int .i64 j.parts) from fun W hW => ⟨(B0.below hW).cells.2.2.2.2.2.2, (B1.below hW).cells.2.2.2.2.2.2⟩)
 obtain ⟨a0, a1, a2, a3, a4, a5, a6⟩ := B0.cells
 obtain ⟨c0, c1, c2, c3, c4, c5, c6⟩ := B1.cells
 have HW := ae hW0.symm
 have HB := ae hb0
 clear hW0 hb0 B0 B1 hv hu
 go_enter Tryz.func13, Tryz.ntmps13
 go_wp2_with fail
 rw [HW.out]
 refine HE.out.mono ?_
 rintro e W1 ⟨rfl, hd1⟩
 have hb1 := hd1.below W0.heap.size
 obtain ⟨z6, y6⟩ := HF.out W1 hb1
 go_wp2
 go_ret
 exact ⟨rfl, ag HB.out hb1⟩
theorem fx {P : Program} {fn : Func} {t : Tmp} {T : TypeId} {a : Addr} {x : Value} (h : fn.results = #[.cell t T]) {tmps : Array Value} {w : World} (hp : tmps.getD t undef = .pointer (some a)) (hl : (loadVar T a).run P w = .ok x w) :
  (results fn tmps).run P w = .ok x w := by
 have hp' : tmps[t]?.getD undef = .pointer (some a) := by simpa using hp
 simp [results, h, hp', hl, asAddr]
theorem copyJob_any (j : Jb) (l : List Int) (v : Value) (w : World) (hv : NS w v l) (hl : l.length ≤ 90000) : Calls Tryz.prog 17 #[cJ j v] w fun e w' => (∃ v', e = .returned (cJ j v') ∧ aM w' w.heap.size v' l) ∧ Below w.heap.size w w' := by
 obtain ⟨va, vc, rfl, -⟩ := id hv
 obtain ⟨W0, hW0⟩ : ∃ W0 : World, W0 = ((w.alloc (fQ j (.slice va l.length vc))).alloc (.cells #[.int .i64 0, .string ⟨#[]⟩, .int .i64 0, .int .i64 0, .int .i64 0, .slice none 0 0, .int .i64 0] 37)).alloc (fQ j (.slice va l.length vc)) := ⟨_, rfl⟩
 obtain ⟨WA, hWA⟩ : ∃ WA : World, WA = w.alloc (fQ j (.slice va l.length vc)) := ⟨_, rfl⟩
 obtain ⟨WB, hWB⟩ : ∃ WB : World, WB = WA.alloc (.cells #[.int .i64 0, .string ⟨#[]⟩, .int .i64 0, .int .i64 0, .int .i64 0, .slice none 0 0, .int .i64 0] 37) := ⟨_, rfl⟩
 have e0 : W0 = WB.alloc (fQ j (.slice va l.length vc)) := by rw [hW0, hWB, hWA]
 have sA : WA.heap.size = w.heap.size + 1 := by rw [hWA]; simp
 have sB : WB.heap.size = w.heap.size + 1 + 1 := by rw [hWB]; simp [sA]
 have bA : Below w.heap.size w WA := by rw [hWA]; exact dN _ _
 have bB : Below WA.heap.size WA WB := by rw [hWB]; exact dN _ _
 have b0 : Below WB.heap.size WB W0 := by rw [e0]; exact dN _ _
 have BZ : aG WB WA.heap.size (.int .i64 0) (.string ⟨#[]⟩) (.int .i64 0) (.int .i64 0) (.int .i64 0) (.slice none 0 0) (.int .i64 0) := by rw [hWB]; exact aG.new WA _ _ _ _ _ _ _
 have BX : aG W0 WB.heap.size (.int .i64 j.id) (.string j.prog) (.int .i64 j.agg) (.int .i64 j.bound) (.int .i64 j.fuel) (.slice va l.length vc) (.int .i64 j.parts) := by rw [e0]; exact aG.new WB _ _ _ _ _ _ _
 rw [sA] at BZ
 rw [sB] at BX
 have hb0 : Below w.heap.size w W0 := ag bA (ag bB b0)
 have HBZ := ae (BZ.below b0)
 have HBX := ae BX
 have HC := ae (ji _ l W0 (hv.below hb0) hl)
 obtain ⟨a0, a1, a2, a3, a4, a5, a6⟩ := BX.cells
 have HW := ae hW0.symm
 have HB := ae hb0
 have hsz : w.heap.size + 1 + 1 < W0.heap.size := BX.lt
 have HSZ := ae hsz
 clear hW0 hWA hWB e0 sA sB bA bB b0 BZ BX hb0 hv hsz
 go_enter Tryz.func17, Tryz.ntmps17
 go_wp2_with fail
 rw [HW.out]
 refine HC.out.mono ?_
 rintro e W1 ⟨⟨v1, rfl, ho1⟩, hb1⟩
 obtain ⟨o1, oc1, rfl⟩ := ho1.shape
 have hx := HBX.out.below hb1
 have hz := HBZ.out.below hb1
 have hx5 := hx.set5 (.slice o1 l.length oc1)
 obtain ⟨c0, c1, c2, c3, c4, c5, c6⟩ := hx.cells
 obtain ⟨z0, z1, z2, z3, z4, z5, z6⟩ := hz.cells
 have f5 := hx.free 5
 have zf0 := hz.free 0
 have zf1 := hz.free 1
 have zf2 := hz.free 2
 have zf3 := hz.free 3
 have zf4 := hz.free 4
 have zf5 := hz.free 5
 have zf6 := hz.free 6
 have hz5 : aG (W1.setCell ⟨w.heap.size + 1 + 1, 5, none⟩ (.slice o1 l.length oc1)) (w.heap.size + 1) (.int .i64 0) (.string ⟨#[]⟩) (.int .i64 0) (.int .i64 0) (.int .i64 0) (.slice none 0 0) (.int .i64 0) := hz.far (Below.heap_setCell _ _ _ _ (by show w.heap.size + 1 ≠ w.heap.size + 1 + 1; omega))
 have HLD := ae (loadJ (hz5.put (.int .i64 j.id) (.string j.prog) (.int .i64 j.agg) (.int .i64 j.bound) (.int .i64 j.fuel) (.slice o1 l.length oc1) (.int .i64 j.parts)).fin)
 have hbw := ag HB.out hb1
 have HFIN := ae (below7 (b := w.heap.size + 1) (hbw.setCell (p := ⟨w.heap.size + 1 + 1, 5, none⟩) (by show w.heap.size ≤ w.heap.size + 1 + 1; omega) (.slice o1 l.length oc1)) (by omega) (.int .i64 j.id) (.string j.prog) (.int .i64 j.agg) (.int .i64 j.bound) (.int .i64 j.fuel) (.slice o1 l.length oc1) (.int .i64 j.parts))
 have HOW := ae (own7 (b := w.heap.size + 1) (ho1.grown (aq W1 (w.heap.size + 1 + 1) 5 (.slice o1 l.length oc1)) HSZ.out) (by have := HSZ.out; omega) (.int .i64 j.id) (.string j.prog) (.int .i64 j.agg) (.int .i64 j.bound) (.int .i64 j.fuel) (.slice o1 l.length oc1) (.int .i64 j.parts))
 clear hx hz hx5 hz5 hbw ho1 hb1
 go_wp2
 with_reducible refine bodyPost_ret (fx rfl rfl HLD.out) rfl ?_
 exact ⟨⟨_, rfl, aM.down HOW.out HB.out.size⟩, HFIN.out⟩
theorem Tryz.infoSp : (Tryz.prog.info? 93).map (fun i => (i.zero, i.size, i.bytes)) = some (some (.agg #[.int .i64 0, .string ⟨#[]⟩, .slice none 0 0]), 3, 48) := by kernel_rfl
abbrev gz := Int × ByteArray × Sl
def encSp (x : gz) : List Value := [.int .i64 x.1, .string x.2.1, dD x.2.2]
abbrev db (l : List gz) : List Value := l.flatMap encSp
theorem flatSp_app (l m : List gz) : db (l ++ m) = db l ++ db m := by simp [db]
theorem nu : ∀ (l : List gz) (i : Nat) (x : gz), l[i]? = some x → (db l)[i * 3]? = some (.int .i64 x.1) ∧ (db l)[i * 3 + 1]? = some (.string x.2.1) ∧ (db l)[i * 3 + 2]? = some (dD x.2.2)
 | [], i, x, h => by simp at h
 | a :: l, 0, x, h => by simp at h; subst h; simp [db, encSp]
 | a :: l, i + 1, x, h => by
  simp at h
  have := nu l i x h
  simp only [db, List.flatMap_cons, encSp] at this ⊢
  have e : (i + 1) * 3 = i * 3 + 1 + 1 + 1 := by omega
  rw [e]
  simpa using this
theorem flatSp_cell (l : List gz) : ∀ u ∈ db l, u.oneCell' = true := by
 intro u hu
 simp only [db, List.mem_flatMap] at hu
 obtain ⟨x, _, hx⟩ := hu
 simp only [encSp, List.mem_cons, List.not_mem_nil, or_false] at hx
 rcases hx with rfl | rfl | rfl <;> rfl
theorem aM.keepT {w w' : World} {base : Nat} {v : Value} {l : List Int} (h : aM w base v l) (k : dC 3 w w') : aM w' base v l := by
 refine ⟨h.1, ?_⟩
 rcases h.2 with ⟨h1, h2⟩ | ⟨g, cap, cur, h1, h2, h3, h4⟩
 ·exact .inl ⟨h1, h2⟩
 ·exact .inr ⟨g, cap, cur, h1, h2, k g cur h3, h4⟩
structure IsSp (w : World) (base : Nat) (x : gz) (s : cM) : Prop where
 i : x.1 = s.1
 t : x.2.1 = s.2.1
 s : aM w base (dD x.2.2) s.2.2
theorem IsSp.keepT {w w' : World} {base : Nat} {x : gz} {s : cM} (h : IsSp w base x s) (k : dC 3 w w') : IsSp w' base x s := ⟨h.i, h.t, h.s.keepT k⟩
def gC (w : World) (base : Nat) (xs : List gz) (l : List cM) : Prop := xs.length = l.length ∧ ∀ (i : Nat) (x : gz) (s : cM), xs[i]? = some x → l[i]? = some s → IsSp w base x s
theorem gC.nil (w : World) (base : Nat) : gC w base [] [] := ⟨rfl, fun i x r h => by simp at h⟩
theorem gC.keepT {w w' : World} {base : Nat} {xs : List gz} {l : List cM} (h : gC w base xs l) (k : dC 3 w w') : gC w' base xs l := ⟨h.1, fun i x r h1 h2 => (h.2 i x r h1 h2).keepT k⟩
theorem gC.snoc {w : World} {base : Nat} {xs : List gz} {l : List cM} {x : gz} {r : cM} (h : gC w base xs l) (k : IsSp w base x r) : gC w base (xs ++ [x]) (l ++ [r]) := by
 refine ⟨by simp [h.1], fun i y s h1 h2 => ?_⟩
 by_cases hi : i < xs.length
 ·rw [List.getElem?_append_left hi] at h1
  rw [List.getElem?_append_left (h.1 ▸ hi)] at h2
  exact h.2 i y s h1 h2
 ·rw [List.getElem?_append_right (by omega)] at h1
  rw [List.getElem?_append_right (by have := h.1; omega)] at h2
  have e : i - xs.length = 0 := by
   have := (List.getElem?_eq_some_iff.1 h1).1
   simp at this
   omega
  rw [e] at h1
  rw [← h.1, e] at h2
  simp at h1 h2
  subst h1 h2
  exact k
abbrev nw (w : World) (base : Nat) (v : Value) (xs : List gz) : Prop := w.ownsRow base 93 3 v xs.length (db xs)
def bv (w : World) (base : Nat) (v : Value) (l : List cM) : Prop := ∃ xs, nw w base v xs ∧ gC w base xs l
theorem dC.belowP {T : TypeId} {w w' : World} (h : Below w.heap.size w w') : dC T w w' := fun g cur hg => by rw [h.block g (Array.getElem?_eq_some_iff.1 hg).1]; exact hg
theorem nw.below {w w' : World} {base : Nat} {v : Value} {xs : List gz} (h : nw w base v xs) (hb : Below w.heap.size w w') : nw w' base v xs := by
 refine ⟨h.1, ?_⟩
 rcases h.2 with ⟨h1, h2⟩ | ⟨g, cap, cur, h1, h2, h3, h4⟩
 ·exact .inl ⟨h1, h2⟩
 ·exact .inr ⟨g, cap, cur, h1, h2, by rw [hb.block g (Array.getElem?_eq_some_iff.1 h3).1]; exact h3, h4⟩
theorem bv.below {w w' : World} {base : Nat} {v : Value} {l : List cM} (h : bv w base v l) (hb : Below w.heap.size w w') : bv w' base v l := by
 obtain ⟨xs, h1, h2⟩ := h
 exact ⟨xs, h1.below hb, h2.keepT (.belowP hb)⟩
theorem bv.nil (w : World) (base : Nat) : bv w base (.slice none 0 0) [] := ⟨[], World.ownsRow_nil _ _ _ _, gC.nil _ _⟩
theorem bv.lower {w : World} {base base' : Nat} {v : Value} {l : List cM} (h : bv w base v l) (hb : base' ≤ base) : bv w base' v l := by
 obtain ⟨xs, hx, h2⟩ := h
 refine ⟨xs, ⟨hx.1, ?_⟩, h2.1, fun i x s h1 h3 => ⟨(h2.2 i x s h1 h3).i, (h2.2 i x s h1 h3).t, aM.down (h2.2 i x s h1 h3).s hb⟩⟩
 rcases hx.2 with ⟨h1, h2⟩ | ⟨g, cap, cur, h1, h2, h3, h4⟩
 ·exact .inl ⟨h1, h2⟩
 ·exact .inr ⟨g, cap, cur, h1, by omega, h3, h4⟩
theorem own_rowP {w : World} {base : Nat} {v : Value} {l : List gz} (h : nw w base v l) : ∀ k, v.ownBlock = some k → base ≤ k := by
 intro k hk
 rcases h.2 with ⟨rfl, -⟩ | ⟨g, cap, cur, rfl, hg, -⟩
 ·cases hk
 ·have e : some g = some k := hk
  injection e with e
  omega
theorem keep_rowP {W W' : World} {base : Nat} {v : Value} {xs : List gz} (h : nw W base v xs) (hg : W.grownBy W' v.ownBlock) : dC 3 W W' := by
 intro g cur hc
 refine (hg.block g (Array.getElem?_eq_some_iff.1 hc).1 fun e => ?_).trans hc
 rcases h.2 with ⟨rfl, -⟩ | ⟨g', cap, cu, rfl, -, hb, -⟩
 ·cases e
 ·have e' : some g' = some g := e.symm
  injection e' with e'
  subst e'
  rw [hc] at hb
  injection hb with hb
  injection hb with _ hb
  exact absurd hb (by decide)
theorem aM.cap {w : World} {base : Nat} {a : Option Addr} {n c : Nat} {l : List Int} (h : aM w base (.slice a n c) l) : l.length ≤ c := by
 rcases h.2 with ⟨h1, h2⟩ | ⟨g, cap, cur, h1, h2, h3, h4, -⟩
 ·rw [h2]; exact Nat.zero_le _
 ·injection h1 with e1 e2 e3
  subst e3
  exact h4
theorem bv.at {w : World} {base g : Nat} {cur : Array Value} {xs : List gz} {l : List cM} (hb : w.heap[g]? = some (.cells cur 93 (0, 0))) (ht : cur.toList.take (xs.length * 3) = db xs) (ha : gC w base xs l) : SpsAt w g 0 l := by
 intro i r hr
 have hi : i < l.length := (List.getElem?_eq_some_iff.1 hr).1
 obtain ⟨x, hx⟩ := ak (l := xs) (i := i) (by rw [ha.1]; exact hi)
 obtain ⟨h0, h1, h2⟩ := nu xs i x hx
 have hi' : i < xs.length := by rw [ha.1]; exact hi
 rw [← ht, List.getElem?_take_of_lt (by omega)] at h0 h1 h2
 obtain ⟨ek, en, es⟩ := ha.2 i x r hx hr
 obtain ⟨a, cap', es'⟩ := id es.shape
 have hc : ∀ o u, cur.toList[o]? = some u → w.cell? ⟨g, o, none⟩ = some u := fun o u hu => by
  simp only [World.cell?, hb]
  simpa using hu
 refine ⟨?_, ?_, a, cap', ?_, ?_, ?_⟩
 ·rw [← ek]; exact hc _ _ (by rw [Nat.zero_add]; exact h0)
 ·rw [← en]; exact hc _ _ (by rw [Nat.zero_add]; exact h1)
 ·rw [← es']; exact hc _ _ (by rw [Nat.zero_add]; exact h2)
 ·rw [← es']; exact NS.own es
 ·rw [es'] at es; exact es.cap
theorem bv.ps {w : World} {base : Nat} {v : Value} {l : List cM} (h : bv w base v l) : PS w v l := by
 obtain ⟨xs, hx, ha⟩ := h
 rcases hx.2 with ⟨rfl, h0⟩ | ⟨g, cap, cur, rfl, _, hb, _, _, _, ht⟩
 ·have : xs = [] := List.length_eq_zero_iff.1 h0
  subst this
  have : l = [] := List.length_eq_zero_iff.1 ha.1.symm
  subst this
  exact ⟨none, 0, rfl, .inl rfl⟩
 ·exact ⟨_, cap, by rw [ha.1], .inr ⟨g, 0, rfl, (Array.getElem?_eq_some_iff.1 hb).1, bv.at hb ht ha⟩⟩
theorem bv.shape {w : World} {base : Nat} {v : Value} {l : List cM} (h : bv w base v l) : ∃ a c, v = .slice a l.length c := by
 obtain ⟨a, c, e, -⟩ := h.ps
 exact ⟨a, c, e⟩
theorem bv.push {W : World} {base : Nat} {v : Value} {l : List cM} {x : gz} {s : cM} (ty : TypeId) (h : bv W base v l) (hx : IsSp W base x s) (hl : l.length ≤ 100000) (hb : base ≤ W.heap.size) :
  ∃ v4 W4, (Builtin.append_ #[22, 22] ty #[v, .slice (some ⟨W.heap.size, 0, none⟩) 1 1]).run Tryz.prog (W.alloc (.cells #[.int .i64 x.1, .string x.2.1, dD x.2.2] 93)) = .ok v4 W4 ∧ bv W4 base v4 (l ++ [s]) ∧ Below base W W4 := by
 obtain ⟨i0, hi, hz0, hz1, hz2⟩ := info_parts Tryz.infoSp
 have hal := dN W (.cells #[.int .i64 x.1, .string x.2.1, dD x.2.2] 93)
 obtain ⟨xs, hxs, ha⟩ := h
 have hoA := hxs.below hal
 have hlen := ha.1
 obtain ⟨v', w', hr, h2, h3, _, h5⟩ := run_append_own_at (P := Tryz.prog) (W.alloc (.cells #[.int .i64 x.1, .string x.2.1, dD x.2.2] 93)) base 22 ty 93 i0 _ 3 48 Tryz.underlying22 hi hz0 hz1 hz2 rfl (by decide) v xs.length (db xs) hoA ⟨W.heap.size, 0, none⟩ 1 1 (db [x]) rfl (fun j u hu => by
  rw [Addr.add_lit]
  show (match (W.alloc (.cells #[.int .i64 x.1, .string x.2.1, dD x.2.2] 93)).heap[W.heap.size]? with | some (Obj.cells c _ _) => c[0 + j]? | _ => none) = _
  rw [heap_alloc_new W (.cells #[.int .i64 x.1, .string x.2.1, dD x.2.2] 93)]
  rw [Nat.zero_add]
  show (#[Value.int .i64 x.1, Value.string x.2.1, dD x.2.2])[j]? = _
  rw [← Array.getElem?_toList]
  simpa [db, encSp] using hu) (flatSp_cell [x]) (by unfold maxLen; omega) (by omega) (by have := hal.size; omega)
 refine ⟨v', w', hr, ⟨xs ++ [x], ?_, ?_⟩, ?_⟩
 ·unfold nw
  rw [flatSp_app, List.length_append]
  exact h2
 ·exact gC.snoc ((ha.keepT (.belowP hal)).keepT (keep_rowP hoA h3)) ((hx.keepT (.belowP hal)).keepT (keep_rowP hoA h3))
 ·exact (hal.mono hb).grown h3 (by have := hal.size; omega) (own_rowP hoA)
def bn (W : World) (b : Nat) (x0 x1 x2 : Value) : Prop := W.heap[b]? = some (.cells #[x0, x1, x2] 93 (0, 0))
section
variable {W W' : World} {b : Nat} {x0 x1 x2 : Value}
theorem bn.new (W : World) (x0 x1 x2 : Value) : bn (W.alloc (.cells #[x0, x1, x2] 93)) W.heap.size x0 x1 x2 := heap_alloc_new W _
theorem bn.lt (h : bn W b x0 x1 x2) : b < W.heap.size := (Array.getElem?_eq_some_iff.1 h).1
theorem bn.far (h : bn W b x0 x1 x2) (hb : W'.heap[b]? = W.heap[b]?) : bn W' b x0 x1 x2 := by unfold bn; rw [hb]; exact h
theorem bn.below (h : bn W b x0 x1 x2) (hb : Below W.heap.size W W') : bn W' b x0 x1 x2 := h.far (hb.block b h.lt)
theorem bn.cells (h : bn W b x0 x1 x2) : W.cell? ⟨b, 0, none⟩ = some x0 ∧ W.cell? ⟨b, 1, none⟩ = some x1 ∧ W.cell? ⟨b, 2, none⟩ = some x2 := by
 refine ⟨?_, ?_, ?_⟩ <;> (simp only [World.cell?]; rw [show W.heap[b]? = _ from h]; rfl)
theorem bn.free (h : bn W b x0 x1 x2) (o : Nat) : W.frozen? ⟨b, o, none⟩ = false := by simp [World.frozen?, show W.heap[b]? = _ from h]
theorem bn.set0 (h : bn W b x0 x1 x2) (y : Value) : bn (W.setCell ⟨b, 0, none⟩ y) b y x1 x2 := by
 unfold bn at h ⊢
 rw [heap_setCell_same W b 0 _ 93 y h]
 rfl
theorem bn.set1 (h : bn W b x0 x1 x2) (y : Value) : bn (W.setCell ⟨b, 1, none⟩ y) b x0 y x2 := by
 unfold bn at h ⊢
 rw [heap_setCell_same W b 1 _ 93 y h]
 rfl
theorem bn.set2 (h : bn W b x0 x1 x2) (y : Value) : bn (W.setCell ⟨b, 2, none⟩ y) b x0 x1 y := by
 unfold bn at h ⊢
 rw [heap_setCell_same W b 2 _ 93 y h]
 rfl
structure Blk3SP (W : World) (b : Nat) (y0 y1 y2 : Value) : Prop where
 f0 : (W).frozen? ⟨b, 0, none⟩ = false
 c0 : ∃ x, (W).cell? ⟨b, 0, none⟩ = some x
 f1 : ((W.setCell ⟨b, 0, none⟩ y0)).frozen? ⟨b, 1, none⟩ = false
 c1 : ∃ x, ((W.setCell ⟨b, 0, none⟩ y0)).cell? ⟨b, 1, none⟩ = some x
 f2 : (((W.setCell ⟨b, 0, none⟩ y0).setCell ⟨b, 1, none⟩ y1)).frozen? ⟨b, 2, none⟩ = false
 c2 : ∃ x, (((W.setCell ⟨b, 0, none⟩ y0).setCell ⟨b, 1, none⟩ y1)).cell? ⟨b, 2, none⟩ = some x
 fin : bn (((W.setCell ⟨b, 0, none⟩ y0).setCell ⟨b, 1, none⟩ y1).setCell ⟨b, 2, none⟩ y2) b y0 y1 y2
theorem bn.put (h : bn W b x0 x1 x2) (y0 y1 y2 : Value) : Blk3SP W b y0 y1 y2 :=
 ⟨(h).free 0, ⟨_, (h).cells.1⟩, ((h).set0 y0).free 1, ⟨_, ((h).set0 y0).cells.2.1⟩, (((h).set0 y0).set1 y1).free 2, ⟨_, (((h).set0 y0).set1 y1).cells.2.2⟩, (((h).set0 y0).set1 y1).set2 y2⟩
theorem loadBlk3S (h : bn W b x0 x1 x2) : (loadVar 93 ⟨b, 0, none⟩).run Tryz.prog W = .ok (.agg #[x0, x1, x2]) W := by
 obtain ⟨h0, h1, h2⟩ := h.cells
 have a30 := Tryz.isAgg93
 have z30 := Tryz.sizeOf93
 have hc := run_loadCells_list (P := Tryz.prog) W ⟨b, 0, none⟩ [x0, x1, x2] (fun j v hj => by
  match j, hj with
  | 0, hj => simp at hj; subst hj; simpa [Addr.add] using h0
  | 1, hj => simp at hj; subst hj; simpa [Addr.add] using h1
  | 2, hj => simp at hj; subst hj; simpa [Addr.add] using h2)
 simp [loadVar, a30, z30]
 have hc' : (loadCells ⟨b, 0, none⟩ 3).run Tryz.prog W = .ok #[x0, x1, x2] W := hc
 rw [hc']
 rfl
end
theorem belowBlk3S {w W : World} {b : Nat} (h : Below w.heap.size w W) (hb : w.heap.size ≤ b) (y0 y1 y2 : Value) : Below w.heap.size w (((W.setCell ⟨b, 0, none⟩ y0).setCell ⟨b, 1, none⟩ y1).setCell ⟨b, 2, none⟩ y2) := (((h.setCell (p := ⟨b, 0, none⟩) (by show w.heap.size ≤ b; omega) y0).setCell (p := ⟨b, 1, none⟩) (by show w.heap.size ≤ b; omega) y1).setCell (p := ⟨b, 2, none⟩) (by show w.heap.size ≤ b; omega) y2)
def az (W : World) (b : Nat) (x0 x1 x2 x3 : Value) : Prop := W.heap[b]? = some (.cells #[x0, x1, x2, x3] 24 (0, 0))
section
variable {W W' : World} {b : Nat} {x0 x1 x2 x3 : Value}
theorem az.new (W : World) (x0 x1 x2 x3 : Value) : az (W.alloc (.cells #[x0, x1, x2, x3] 24)) W.heap.size x0 x1 x2 x3 := heap_alloc_new W _
theorem az.lt (h : az W b x0 x1 x2 x3) : b < W.heap.size := (Array.getElem?_eq_some_iff.1 h).1
theorem az.far (h : az W b x0 x1 x2 x3) (hb : W'.heap[b]? = W.heap[b]?) : az W' b x0 x1 x2 x3 := by unfold az; rw [hb]; exact h
theorem az.below (h : az W b x0 x1 x2 x3) (hb : Below W.heap.size W W') : az W' b x0 x1 x2 x3 := h.far (hb.block b h.lt)
theorem az.cells (h : az W b x0 x1 x2 x3) : W.cell? ⟨b, 0, none⟩ = some x0 ∧ W.cell? ⟨b, 1, none⟩ = some x1 ∧ W.cell? ⟨b, 2, none⟩ = some x2 ∧ W.cell? ⟨b, 3, none⟩ = some x3 := by
 refine ⟨?_, ?_, ?_, ?_⟩ <;> (simp only [World.cell?]; rw [show W.heap[b]? = _ from h]; rfl)
theorem az.free (h : az W b x0 x1 x2 x3) (o : Nat) : W.frozen? ⟨b, o, none⟩ = false := by simp [World.frozen?, show W.heap[b]? = _ from h]
theorem az.set0 (h : az W b x0 x1 x2 x3) (y : Value) : az (W.setCell ⟨b, 0, none⟩ y) b y x1 x2 x3 := by
 unfold az at h ⊢
 rw [heap_setCell_same W b 0 _ 24 y h]
 rfl
theorem az.set1 (h : az W b x0 x1 x2 x3) (y : Value) : az (W.setCell ⟨b, 1, none⟩ y) b x0 y x2 x3 := by
 unfold az at h ⊢
 rw [heap_setCell_same W b 1 _ 24 y h]
 rfl
theorem az.set2 (h : az W b x0 x1 x2 x3) (y : Value) : az (W.setCell ⟨b, 2, none⟩ y) b x0 x1 y x3 := by
 unfold az at h ⊢
 rw [heap_setCell_same W b 2 _ 24 y h]
 rfl
theorem az.set3 (h : az W b x0 x1 x2 x3) (y : Value) : az (W.setCell ⟨b, 3, none⟩ y) b x0 x1 x2 y := by
 unfold az at h ⊢
 rw [heap_setCell_same W b 3 _ 24 y h]
 rfl
structure Blk4FP (W : World) (b : Nat) (y0 y1 y2 y3 : Value) : Prop where
 f0 : (W).frozen? ⟨b, 0, none⟩ = false
 c0 : ∃ x, (W).cell? ⟨b, 0, none⟩ = some x
 f1 : ((W.setCell ⟨b, 0, none⟩ y0)).frozen? ⟨b, 1, none⟩ = false
 c1 : ∃ x, ((W.setCell ⟨b, 0, none⟩ y0)).cell? ⟨b, 1, none⟩ = some x
 f2 : (((W.setCell ⟨b, 0, none⟩ y0).setCell ⟨b, 1, none⟩ y1)).frozen? ⟨b, 2, none⟩ = false
 c2 : ∃ x, (((W.setCell ⟨b, 0, none⟩ y0).setCell ⟨b, 1, none⟩ y1)).cell? ⟨b, 2, none⟩ = some x
 f3 : ((((W.setCell ⟨b, 0, none⟩ y0).setCell ⟨b, 1, none⟩ y1).setCell ⟨b, 2, none⟩ y2)).frozen? ⟨b, 3, none⟩ = false
 c3 : ∃ x, ((((W.setCell ⟨b, 0, none⟩ y0).setCell ⟨b, 1, none⟩ y1).setCell ⟨b, 2, none⟩ y2)).cell? ⟨b, 3, none⟩ = some x
 fin : az ((((W.setCell ⟨b, 0, none⟩ y0).setCell ⟨b, 1, none⟩ y1).setCell ⟨b, 2, none⟩ y2).setCell ⟨b, 3, none⟩ y3) b y0 y1 y2 y3
theorem az.put (h : az W b x0 x1 x2 x3) (y0 y1 y2 y3 : Value) : Blk4FP W b y0 y1 y2 y3 :=
 ⟨(h).free 0, ⟨_, (h).cells.1⟩, ((h).set0 y0).free 1, ⟨_, ((h).set0 y0).cells.2.1⟩, (((h).set0 y0).set1 y1).free 2, ⟨_, (((h).set0 y0).set1 y1).cells.2.2.1⟩, ((((h).set0 y0).set1 y1).set2 y2).free 3, ⟨_, ((((h).set0 y0).set1 y1).set2 y2).cells.2.2.2⟩, ((((h).set0 y0).set1 y1).set2 y2).set3 y3⟩
theorem loadBlk4F (h : az W b x0 x1 x2 x3) : (loadVar 24 ⟨b, 0, none⟩).run Tryz.prog W = .ok (.agg #[x0, x1, x2, x3]) W := by
 obtain ⟨h0, h1, h2, h3⟩ := h.cells
 have a30 := Tryz.isAgg24
 have z30 := Tryz.sizeOf24
 have hc := run_loadCells_list (P := Tryz.prog) W ⟨b, 0, none⟩ [x0, x1, x2, x3] (fun j v hj => by
  match j, hj with
  | 0, hj => simp at hj; subst hj; simpa [Addr.add] using h0
  | 1, hj => simp at hj; subst hj; simpa [Addr.add] using h1
  | 2, hj => simp at hj; subst hj; simpa [Addr.add] using h2
  | 3, hj => simp at hj; subst hj; simpa [Addr.add] using h3)
 simp [loadVar, a30, z30]
 have hc' : (loadCells ⟨b, 0, none⟩ 4).run Tryz.prog W = .ok #[x0, x1, x2, x3] W := hc
 rw [hc']
 rfl
end
theorem nx {w W : World} {b : Nat} (h : Below w.heap.size w W) (hb : w.heap.size ≤ b) (y0 y1 y2 y3 : Value) : Below w.heap.size w ((((W.setCell ⟨b, 0, none⟩ y0).setCell ⟨b, 1, none⟩ y1).setCell ⟨b, 2, none⟩ y2).setCell ⟨b, 3, none⟩ y3) := ((((h.setCell (p := ⟨b, 0, none⟩) (by show w.heap.size ≤ b; omega) y0).setCell (p := ⟨b, 1, none⟩) (by show w.heap.size ≤ b; omega) y1).setCell (p := ⟨b, 2, none⟩) (by show w.heap.size ≤ b; omega) y2).setCell (p := ⟨b, 3, none⟩) (by show w.heap.size ≤ b; omega) y3)
theorem bv.grown {W W' : World} {base b : Nat} {v : Value} {l : List cM} (h : bv W base v l) (hg : W.grownBy W' (some b)) (hb : b < base) : bv W' base v l := by
 obtain ⟨xs, hx, ha⟩ := h
 refine ⟨xs, ⟨hx.1, ?_⟩, ha.1, fun i x s h1 h2 => ⟨(ha.2 i x s h1 h2).i, (ha.2 i x s h1 h2).t, (ha.2 i x s h1 h2).s.grown hg hb⟩⟩
 rcases hx.2 with ⟨h1, h2⟩ | ⟨g, cap, cur, h1, h2, h3, h4⟩
 ·exact .inl ⟨h1, h2⟩
 ·exact .inr ⟨g, cap, cur, h1, h2, by rw [hg.block g (Array.getElem?_eq_some_iff.1 h3).1 (fun e => by injection e with e; omega)]; exact h3, h4⟩
theorem nT (id : Int) (t : ByteArray) (l : List Int) (v : Value) (w : World) (hv : NS w v l) (hl : l.length ≤ 90000) :
  Calls Tryz.prog 84 #[.agg #[.int .i64 id, .string t, v]] w fun e w' => (∃ v', e = .returned (.agg #[.int .i64 id, .string t, v']) ∧ aM w' w.heap.size v' l) ∧ Below w.heap.size w w' := by
 obtain ⟨va, vc, rfl⟩ : ∃ va vc, v = .slice va l.length vc := (by obtain ⟨a, c, h, -⟩ := hv; exact ⟨a, c, h⟩)
 obtain ⟨W0, hW0⟩ : ∃ W0 : World, W0 = ((w.alloc (.cells #[.int .i64 id, .string t, .slice va l.length vc] 93)).alloc (.cells #[.int .i64 0, .string ⟨#[]⟩, .slice none 0 0] 93)).alloc (.cells #[.int .i64 id, .string t, .slice va l.length vc] 93) := ⟨_, rfl⟩
 obtain ⟨WA, hWA⟩ : ∃ WA : World, WA = w.alloc (.cells #[.int .i64 id, .string t, .slice va l.length vc] 93) := ⟨_, rfl⟩
 obtain ⟨WB, hWB⟩ : ∃ WB : World, WB = WA.alloc (.cells #[.int .i64 0, .string ⟨#[]⟩, .slice none 0 0] 93) := ⟨_, rfl⟩
 have e0 : W0 = WB.alloc (.cells #[.int .i64 id, .string t, .slice va l.length vc] 93) := by rw [hW0, hWB, hWA]
 have sA : WA.heap.size = w.heap.size + 1 := by rw [hWA]; simp
 have sB : WB.heap.size = w.heap.size + 1 + 1 := by rw [hWB]; simp [sA]
 have bA : Below w.heap.size w WA := by rw [hWA]; exact dN w _
 have bB : Below WA.heap.size WA WB := by rw [hWB]; exact dN _ _
 have b0 : Below WB.heap.size WB W0 := by rw [e0]; exact dN _ _
 have BZ : bn WB WA.heap.size (.int .i64 0) (.string ⟨#[]⟩) (.slice none 0 0) := by rw [hWB]; exact bn.new WA _ _ _
 have BX : bn W0 WB.heap.size (.int .i64 id) (.string t) (.slice va l.length vc) := by rw [e0]; exact bn.new WB _ _ _
 rw [sA] at BZ
 rw [sB] at BX
 have hb0 : Below w.heap.size w W0 := ag bA (ag bB b0)
 have HBZ := ae (BZ.below b0)
 have HBX := ae BX
 have HC := ae (ji _ l W0 (hv.below hb0) hl)
 obtain ⟨a0, a1, a2⟩ := BX.cells
 have HW := ae hW0.symm
 have HB := ae hb0
 have hsz : w.heap.size + 1 + 1 < W0.heap.size := BX.lt
 have HSZ := ae hsz
 clear hW0 hWA hWB e0 sA sB bA bB b0 BZ BX hb0 hv hsz
 go_enter Tryz.func84, Tryz.ntmps84
 go_wp2_with fail
 rw [HW.out]
 refine HC.out.mono ?_
 rintro e W1 ⟨⟨v1, rfl, ho1⟩, hb1⟩
 obtain ⟨o1, oc1, rfl⟩ := ho1.shape
 have hx := HBX.out.below hb1
 have hz := HBZ.out.below hb1
 have hx5 := hx.set2 (.slice o1 l.length oc1)
 obtain ⟨c0, c1, c2⟩ := hx.cells
 obtain ⟨z0, z1, z2⟩ := hz.cells
 have f5 := hx.free 2
 have zf0 := hz.free 0
 have zf1 := hz.free 1
 have zf2 := hz.free 2
 have hz5 : bn (W1.setCell ⟨w.heap.size + 1 + 1, 2, none⟩ (.slice o1 l.length oc1)) (w.heap.size + 1) (.int .i64 0) (.string ⟨#[]⟩) (.slice none 0 0) := hz.far (Below.heap_setCell _ _ _ _ (by show w.heap.size + 1 ≠ w.heap.size + 1 + 1; omega))
 have HLD := ae (loadBlk3S (hz5.put (.int .i64 id) (.string t) (.slice o1 l.length oc1)).fin)
 have hbw := ag HB.out hb1
 have HFIN := ae (belowBlk3S (b := w.heap.size + 1) (hbw.setCell (p := ⟨w.heap.size + 1 + 1, 2, none⟩) (by show w.heap.size ≤ w.heap.size + 1 + 1; omega) (.slice o1 l.length oc1)) (by omega) (.int .i64 id) (.string t) (.slice o1 l.length oc1))
 have HOW := ae ((((ho1.grown (aq W1 (w.heap.size + 1 + 1) 2 (.slice o1 l.length oc1)) HSZ.out).grown (aq _ (w.heap.size + 1) 0 (.int .i64 id)) (by have := HSZ.out; omega)).grown (aq _ (w.heap.size + 1) 1 (.string t)) (by have := HSZ.out; omega)).grown (aq _ (w.heap.size + 1) 2 (.slice o1 l.length oc1)) (by have := HSZ.out; omega))
 clear hx hz hx5 hz5 hbw ho1 hb1
 go_wp2
 with_reducible refine bodyPost_ret (fx rfl rfl HLD.out) rfl ?_
 exact ⟨⟨_, rfl, aM.down HOW.out HB.out.size⟩, HFIN.out⟩
theorem ny (v : Value) (l : List cM) (w : World) (h : PS w v l) (hl : l.length ≤ 90000) (hls : ∀ s ∈ l, s.2.2.length ≤ 90000) :
  Calls Tryz.prog 48 #[v] w fun e w' => (∃ v', e = .returned v' ∧ bv w' w.heap.size v' l) ∧ Below w.heap.size w w' := by
 obtain ⟨va, vc, rfl, hsh⟩ := h
 go_enter Tryz.func48, Tryz.ntmps48
 go_wp2
 go_loopw [3, 4] (fun vo i wr => ∃ k : Nat, k ≤ l.length ∧ i = .int .i64 k ∧ bv wr w.heap.size vo (l.take k) ∧ Below w.heap.size w wr) (fun _ i _ => l.length - (intOf i).toNat)
 case atStart => exact ⟨0, by omega, rfl, bv.nil _ _, Below.refl _ _⟩
 case round =>
  rename World => w0
  obtain ⟨k, hk, rfl, ho, hbel⟩ := hrel
  have hsz := hbel.size
  by_cases hlt : k < l.length
  ·obtain ⟨⟨ya, yb, yl⟩, hy⟩ := ak hlt
   rcases hsh with rfl | ⟨b, off, rfl, hb, hat⟩
   ·simp at hlt
   obtain ⟨c0, c1, s1, p1, c2, n1, -⟩ := (hat.below hbel hb) k _ hy
   simp only at c0 c1 c2 n1
   have HC := ae (nT ya yb yl _ w0 n1 (hls _ (List.mem_of_getElem? hy)))
   have hstep : l.take (k + 1) = l.take k ++ [(ya, yb, yl)] := by rw [List.take_add_one, hy]; rfl
   have HT := ae (show ∀ (W2 : World) (s2 : Sl), Below w0.heap.size w0 W2 → aM W2 w0.heap.size (dD s2) yl → ∃ v4 W4, (Builtin.append_ #[22, 22] 22 #[u3, .slice (some ⟨W2.heap.size, 0, none⟩) 1 1]).run Tryz.prog (W2.alloc (.cells #[.int .i64 ya, .string yb, dD s2] 93)) = .ok v4 W4 ∧ bv W4 w.heap.size v4 (l.take (k + 1)) ∧ Below w.heap.size w W4 from fun W2 s2 hb2 ho2 => by
    obtain ⟨v4, W4, u1, u2, u3⟩ := bv.push (x := (ya, yb, s2)) (s := (ya, yb, yl)) 22 (ho.below hb2) ⟨rfl, rfl, aM.down ho2 hsz⟩ (by rw [List.length_take]; omega) (by have := hb2.size; omega)
    refine ⟨v4, W4, u1, by rw [hstep]; exact u2, ?_⟩
    exact (hbel.trans (hb2.mono hsz)).trans u3)
   clear hat hbel ho hstep hy n1
   go_wp2_with (first
    | (go_at_call 84; refine HC.out.mono ?_; rintro e W2 ⟨⟨v2, rfl, ho2⟩, hb2⟩; obtain ⟨s2a, s2c, rfl⟩ := ho2.shape; obtain ⟨v4, W4, u1, hown4, hbel4⟩ := HT.out W2 (s2a, yl.length, s2c) hb2 ho2; have U1 := ae u1; clear u1)
    | (at_builtin; refine wpList_append_run _ rfl _ _ _ rfl _ _ v4 W4 rfl rfl U1.out ?_))
   go_roundw
   case rel => exact ⟨k + 1, by omega, by go_num, hown4, hbel4⟩
   case measure => simp [intOf]; omega
  ·have hlt' : l.length ≤ k := by omega
   rw [List.take_of_length_le hlt'] at ho
   go_wp2
   go_ret
   exact ⟨⟨_, rfl, ho⟩, hbel⟩
theorem lQ (x0 x2 x3 : Int) (l : List cM) (v : Value) (w : World) (hv : PS w v l) (hl : l.length ≤ 90000) (hls : ∀ s ∈ l, s.2.2.length ≤ 90000) :
  Calls Tryz.prog 16 #[.agg #[.int .i64 x0, v, .int .i64 x2, .int .i64 x3]] w fun e w' => (∃ v', e = .returned (.agg #[.int .i64 x0, v', .int .i64 x2, .int .i64 x3]) ∧ bv w' w.heap.size v' l) ∧ Below w.heap.size w w' := by
 obtain ⟨va, vc, rfl⟩ : ∃ va vc, v = .slice va l.length vc := (by obtain ⟨a, c, h, -⟩ := hv; exact ⟨a, c, h⟩)
 obtain ⟨W0, hW0⟩ : ∃ W0 : World, W0 = ((w.alloc (.cells #[.int .i64 x0, .slice va l.length vc, .int .i64 x2, .int .i64 x3] 24)).alloc (.cells #[.int .i64 0, .slice none 0 0, .int .i64 0, .int .i64 0] 24)).alloc (.cells #[.int .i64 x0, .slice va l.length vc, .int .i64 x2, .int .i64 x3] 24) := ⟨_, rfl⟩
 obtain ⟨WA, hWA⟩ : ∃ WA : World, WA = w.alloc (.cells #[.int .i64 x0, .slice va l.length vc, .int .i64 x2, .int .i64 x3] 24) := ⟨_, rfl⟩
 obtain ⟨WB, hWB⟩ : ∃ WB : World, WB = WA.alloc (.cells #[.int .i64 0, .slice none 0 0, .int .i64 0, .int .i64 0] 24) := ⟨_, rfl⟩
 have e0 : W0 = WB.alloc (.cells #[.int .i64 x0, .slice va l.length vc, .int .i64 x2, .int .i64 x3] 24) := by rw [hW0, hWB, hWA]
 have sA : WA.heap.size = w.heap.size + 1 := by rw [hWA]; simp
 have sB : WB.heap.size = w.heap.size + 1 + 1 := by rw [hWB]; simp [sA]
 have bA : Below w.heap.size w WA := by rw [hWA]; exact dN w _
 have bB : Below WA.heap.size WA WB := by rw [hWB]; exact dN _ _
 have b0 : Below WB.heap.size WB W0 := by rw [e0]; exact dN _ _
 have BZ : az WB WA.heap.size (.int .i64 0) (.slice none 0 0) (.int .i64 0) (.int .i64 0) := by rw [hWB]; exact az.new WA _ _ _ _
 have BX : az W0 WB.heap.size (.int .i64 x0) (.slice va l.length vc) (.int .i64 x2) (.int .i64 x3) := by rw [e0]; exact az.new WB _ _ _ _
 rw [sA] at BZ
 rw [sB] at BX
 have hb0 : Below w.heap.size w W0 := ag bA (ag bB b0)
 have HBZ := ae (BZ.below b0)
 have HBX := ae BX
 have HC := ae (ny _ l W0 (hv.below hb0) hl hls)
 obtain ⟨a0, a1, a2, a3⟩ := BX.cells
 have HW := ae hW0.symm
 have HB := ae hb0
 have hsz : w.heap.size + 1 + 1 < W0.heap.size := BX.lt
 have HSZ := ae hsz
 clear hW0 hWA hWB e0 sA sB bA bB b0 BZ BX hb0 hv hsz
 go_enter Tryz.func16, Tryz.ntmps16
 go_wp2_with fail
 rw [HW.out]
 refine HC.out.mono ?_
 rintro e W1 ⟨⟨v1, rfl, ho1⟩, hb1⟩
 obtain ⟨o1, oc1, rfl⟩ := ho1.shape
 have hx := HBX.out.below hb1
 have hz := HBZ.out.below hb1
 have hx5 := hx.set1 (.slice o1 l.length oc1)
 obtain ⟨c0, c1, c2, c3⟩ := hx.cells
 obtain ⟨z0, z1, z2, z3⟩ := hz.cells
 have f5 := hx.free 1
 have zf0 := hz.free 0
 have zf1 := hz.free 1
 have zf2 := hz.free 2
 have zf3 := hz.free 3
 have hz5 : az (W1.setCell ⟨w.heap.size + 1 + 1, 1, none⟩ (.slice o1 l.length oc1)) (w.heap.size + 1) (.int .i64 0) (.slice none 0 0) (.int .i64 0) (.int .i64 0) := hz.far (Below.heap_setCell _ _ _ _ (by show w.heap.size + 1 ≠ w.heap.size + 1 + 1; omega))
 have HLD := ae (loadBlk4F (hz5.put (.int .i64 x0) (.slice o1 l.length oc1) (.int .i64 x2) (.int .i64 x3)).fin)
 have hbw := ag HB.out hb1
 have HFIN := ae (nx (b := w.heap.size + 1) (hbw.setCell (p := ⟨w.heap.size + 1 + 1, 1, none⟩) (by show w.heap.size ≤ w.heap.size + 1 + 1; omega) (.slice o1 l.length oc1)) (by omega) (.int .i64 x0) (.slice o1 l.length oc1) (.int .i64 x2) (.int .i64 x3))
 have HOW := ae (((((ho1.grown (aq W1 (w.heap.size + 1 + 1) 1 (.slice o1 l.length oc1)) HSZ.out).grown (aq _ (w.heap.size + 1) 0 (.int .i64 x0)) (by have := HSZ.out; omega)).grown (aq _ (w.heap.size + 1) 1 (.slice o1 l.length oc1)) (by have := HSZ.out; omega)).grown (aq _ (w.heap.size + 1) 2 (.int .i64 x2)) (by have := HSZ.out; omega)).grown (aq _ (w.heap.size + 1) 3 (.int .i64 x3)) (by have := HSZ.out; omega))
 clear hx hz hx5 hz5 hbw ho1 hb1
 go_wp2
 with_reducible refine bodyPost_ret (fx rfl rfl HLD.out) rfl ?_
 exact ⟨⟨_, rfl, bv.lower HOW.out HB.out.size⟩, HFIN.out⟩
theorem nz (c : aX) (v : Value) (w : World) (hc : nG w c v) (hs : gU c) : Calls Tryz.prog 16 #[cL c v] w fun e w' => (∃ v', e = .returned (cL c v') ∧ bv w' w.heap.size v' c.splits) ∧ Below w.heap.size w w' :=
 lQ c.sites c.again c.over c.splits v w hc.ps (by have := hs.1; omega) (fun s h => by have := hs.2 s h; omega)
theorem eqsplits_any (v u : Value) (l : List cM) (w : World) (h : PS w v l) (h' : PS w u l) (hl : l.length ≤ 17592186043904) (hls : ∀ s ∈ l, s.2.2.length ≤ 17592186043904) :
  Calls Tryz.prog 66 #[v, u] w fun e w' => e = .returned (.bool true) ∧ Below w.heap.size w w' := by
 obtain ⟨a, cap, rfl, h⟩ := h
 obtain ⟨a', cap', rfl, h'⟩ := h'
 go_enter Tryz.func66, Tryz.ntmps66
 go_wp2
 go_loopw [5] (fun i wr => ∃ k : Nat, k ≤ l.length ∧ i = .int .i64 k ∧ Below w.heap.size w wr) (fun i _ => l.length - (intOf i).toNat)
 case atStart => exact ⟨0, by omega, rfl, Below.refl _ _⟩
 case round =>
  rename World => w0
  obtain ⟨k, hk, rfl, hbel⟩ := hrel
  by_cases hlt : k < l.length
  ·obtain ⟨⟨ya, yb, yl⟩, hy⟩ := ak hlt
   rcases h with rfl | ⟨b, off, rfl, hb, hat⟩
   ·simp at hlt
   rcases h' with rfl | ⟨b', off', rfl, hb', hat'⟩
   ·simp at hlt
   have hyl := hls _ (List.mem_of_getElem? hy)
   have hA := ae hat
   have hA' := ae hat'
   have HBEL := ae hbel
   obtain ⟨c0, c1, s1, p1, c2, n1, -⟩ := (hat.below hbel hb) k _ hy
   obtain ⟨d0, d1, s2, p2, d2, n2, -⟩ := (hat'.below hbel hb') k _ hy
   simp only at c0 c1 c2 n1 d0 d1 d2 n2
   have lb := Nat.lt_of_lt_of_le hb hbel.size
   have lb' := Nat.lt_of_lt_of_le hb' hbel.size
   have HSS := ae (show ∀ W : World, Below w0.heap.size w0 W → W.cell? ⟨b, off + k * 3, none⟩ = some (.int .i64 ya) ∧ W.cell? ⟨b, off + k * 3 + 1, none⟩ = some (.string yb) ∧ W.cell? ⟨b, off + k * 3 + 2, none⟩ = some (.slice s1 yl.length p1) ∧ W.cell? ⟨b', off' + k * 3, none⟩ = some (.int .i64 ya) ∧ W.cell? ⟨b', off' + k * 3 + 1, none⟩ = some (.string yb) ∧ W.cell? ⟨b', off' + k * 3 + 2, none⟩ = some (.slice s2 yl.length p2) ∧ Below w0.heap.size w0 W from fun W hW => ⟨(hW.cell (p := ⟨b, _, none⟩) lb).trans c0, (hW.cell (p := ⟨b, _, none⟩) lb).trans c1, (hW.cell (p := ⟨b, _, none⟩) lb).trans c2, (hW.cell (p := ⟨b', _, none⟩) lb').trans d0, (hW.cell (p := ⟨b', _, none⟩) lb').trans d1, (hW.cell (p := ⟨b', _, none⟩) lb').trans d2, hW⟩)
   have HKEEP := ae (fun (W W' : World) (hn : W.cell? ⟨b, off + k * 3, none⟩ = some (.int .i64 ya) ∧ W.cell? ⟨b, off + k * 3 + 1, none⟩ = some (.string yb) ∧ W.cell? ⟨b, off + k * 3 + 2, none⟩ = some (.slice s1 yl.length p1) ∧ W.cell? ⟨b', off' + k * 3, none⟩ = some (.int .i64 ya) ∧ W.cell? ⟨b', off' + k * 3 + 1, none⟩ = some (.string yb) ∧ W.cell? ⟨b', off' + k * 3 + 2, none⟩ = some (.slice s2 yl.length p2) ∧ Below w0.heap.size w0 W) (hb : Below W.heap.size W W') => HSS.out W' (ag hn.2.2.2.2.2.2 hb))
   have HQ := ae (fun (W : World) (hW : Below w0.heap.size w0 W) => eqsplit_any ya yb yl s1 s2 p1 p2 W (n1.below hW) (n2.below hW) hyl)
   clear hat hat' hy n1 n2 hbel lb lb'
   have hk0 : (0 : Int) ≤ k := by omega
   have hkl : (k : Int) < l.length := by omega
   go_wp2
   go_region_held3 (fun W => W.cell? ⟨b, off + k * 3, none⟩ = some (.int .i64 ya) ∧ W.cell? ⟨b, off + k * 3 + 1, none⟩ = some (.string yb) ∧ W.cell? ⟨b, off + k * 3 + 2, none⟩ = some (.slice s1 yl.length p1) ∧ W.cell? ⟨b', off' + k * 3, none⟩ = some (.int .i64 ya) ∧ W.cell? ⟨b', off' + k * 3 + 1, none⟩ = some (.string yb) ∧ W.cell? ⟨b', off' + k * 3 + 2, none⟩ = some (.slice s2 yl.length p2) ∧ Below w0.heap.size w0 W)
    (first | with_reducible exact HKEEP.out _ _ (by assumption) (by assumption) | with_reducible exact HSS.out _ (Below.refl _ _).drew)
    (first | (go_at_call 111; refine (HQ.out _ (by first | exact (‹_ ∧ _ ∧ _ ∧ _ ∧ _ ∧ _ ∧ Below w0.heap.size w0 _›).2.2.2.2.2.2 | exact (Below.refl _ _).drew)).mono ?_; rintro e W1 ⟨rfl, hb1⟩))
   have hbX := (‹_ ∧ _ ∧ _ ∧ _ ∧ _ ∧ _ ∧ Below w0.heap.size w0 _›).2.2.2.2.2.2
   go_wp2
   go_roundw
   case rel => exact ⟨k + 1, by omega, by go_num, ag HBEL.out hbX⟩
   case measure => simp [intOf]; omega
  ·have hlt' : ¬ (k : Int) < l.length := by omega
   go_wp2
   go_ret
   exact ⟨rfl, hbel⟩
theorem eqconfig_any (c : aX) (v u : Value) (w : World) (h : PS w v c.splits) (h' : PS w u c.splits) (hs : gU c) :
  Calls Tryz.prog 25 #[cL c v, cL c u] w fun e w' => e = .returned (.bool true) ∧ Below w.heap.size w w' := by
 obtain ⟨va, vc, rfl, -⟩ := id h
 obtain ⟨ua, uc, rfl, -⟩ := id h'
 obtain ⟨W0, hW0⟩ : ∃ W0 : World, W0 = (w.alloc (gq c (.slice va c.splits.length vc))).alloc (gq c (.slice ua c.splits.length uc)) := ⟨_, rfl⟩
 have hb0 : Below w.heap.size w W0 := by rw [hW0]; exact ag (dN w _) (dN _ _)
 have B0 : az W0 w.heap.size (.int .i64 c.sites) (.slice va c.splits.length vc) (.int .i64 c.again) (.int .i64 c.over) := by rw [hW0]; exact (az.new w _ _ _ _).below (dN _ _)
 have B1 : az W0 (w.heap.size + 1) (.int .i64 c.sites) (.slice ua c.splits.length uc) (.int .i64 c.again) (.int .i64 c.over) := by rw [hW0]; simpa using az.new (w.alloc (gq c (.slice va c.splits.length vc))) (.int .i64 c.sites) (.slice ua c.splits.length uc) (.int .i64 c.again) (.int .i64 c.over)
 have HE := ae (eqsplits_any _ _ c.splits W0 (h.below hb0) (h'.below hb0) (by have := hs.1; omega) (fun s hs' => by have := hs.2 s hs'; omega))
 have HF := ae (fun (W : World) (hW : Below W0.heap.size W0 W) => And.intro (B0.below hW).cells (B1.below hW).cells)
 obtain ⟨a0, a1, a2, a3⟩ := B0.cells
 obtain ⟨c0, c1, c2, c3⟩ := B1.cells
 have HW := ae hW0.symm
 have HB := ae hb0
 clear hW0 hb0 B0 B1 h h'
 go_enter Tryz.func25, Tryz.ntmps25
 go_wp2_with fail
 rw [HW.out]
 refine HE.out.mono ?_
 rintro e W1 ⟨rfl, hb1⟩
 obtain ⟨⟨z0, z1, z2, z3⟩, y0, y1, y2, y3⟩ := HF.out W1 hb1
 go_wp2
 go_ret
 exact ⟨rfl, ag HB.out hb1⟩
section
variable {P : Program} {ops : Array Oper} {Q : Exit → Act → World → Prop} {md : Region.Mode}
abbrev dn (D : Array Bool) (i : Nat) : Bool := D.getD i false
theorem nA {D : Array Bool} {i : Nat} (h : i ∈ Region.ready md ops D) (hD : D.size = ops.size) : i < ops.size ∧ dn D i = false ∧ ∀ o, ops[i]? = some o → ∀ e ∈ o.after, Region.binds md e = true → dn D e.on = true := by
 unfold Region.ready at h
 rw [List.mem_filter] at h
 obtain ⟨h1, h2⟩ := h
 have hi : i < ops.size := by simpa using h1
 simp only [Bool.and_eq_true, Bool.not_eq_true'] at h2
 refine ⟨hi, ?_, fun o ho e he hb => ?_⟩
 ·have := h2.1
  simp only [dn, Array.getD_eq_getD_getElem?] at this ⊢
  rw [Array.getElem?_eq_getElem (by omega)] at this ⊢
  simpa using this
 ·have h3 := h2.2
  rw [ho] at h3
  simp only [Option.map_some, Option.getD_some] at h3
  rw [Array.all_eq_true'] at h3
  have := h3 e he
  simpa [hb] using this
theorem bS {D : Array Bool} (h : Region.ready md ops D = []) {i : Nat} {o : Oper} (hi : i < ops.size) (hD : D.size = ops.size) (ho : ops[i]? = some o) (hall : ∀ e ∈ o.after, Region.binds md e = true → dn D e.on = true) : dn D i = true := by
 cases hd : dn D i with
 | true => rfl
 | false =>
  exfalso
  have hm : i ∈ Region.ready md ops D := by
   unfold Region.ready
   rw [List.mem_filter]
   refine ⟨by simpa using hi, ?_⟩
   rw [ho]
   simp only [Option.map_some, Option.getD_some, Bool.and_eq_true, Bool.not_eq_true']
   refine ⟨?_, ?_⟩
   ·simp only [dn, Array.getD_eq_getD_getElem?] at hd ⊢
    rw [Array.getElem?_eq_getElem (by omega)] at hd ⊢
    simpa using hd
   ·rw [Array.all_eq_true']
    intro e he
    cases hb : Region.binds md e with
    | false => rfl
    | true => simpa using hall e he hb
  rw [h] at hm
  cases hm
theorem aO {D : Array Bool} {i j : Nat} (h : j ≠ i) : dn (D.setIfInBounds i true) j = dn D j := by
 simp only [dn, Array.getD_eq_getD_getElem?]
 rw [Array.getElem?_setIfInBounds_ne (by omega)]
theorem wpAny_inv (I : Array Bool → Act → World → Prop)
  (hstep : ∀ D a w, I D a w → D.size = ops.size → ∀ i ∈ Region.ready md ops D, wpOp P ops Q i (I (D.setIfInBounds i true)) a w)
  (hend : ∀ D a w, I D a w → D.size = ops.size → Region.ready md ops D = [] → Q .normal a w) :
  ∀ fuel D a w, D.size = ops.size → D.toList.count false ≤ fuel → I D a w → wpAny P md ops Q fuel D a w
 | 0, D, a, w, hD, hf, h => by
  have hr : Region.ready md ops D = [] := by
   cases hr : Region.ready md ops D with
   | nil => rfl
   | cons i l =>
    obtain ⟨h1, h2, -⟩ := nA (md := md) (ops := ops) (D := D) (i := i) (by rw [hr]; exact List.mem_cons_self ..) hD
    have : false ∈ D.toList := by
     simp only [dn, Array.getD_eq_getD_getElem?] at h2
     rw [Array.getElem?_eq_getElem (by omega)] at h2
     have h3 : D[i] = false := by simpa using h2
     rw [← h3]
     exact Array.getElem_mem_toList (by omega)
    have := List.count_pos_iff.2 this
    omega
  exact ⟨hr, hend D a w h hD hr⟩
 | fuel + 1, D, a, w, hD, hf, h => by
  refine ⟨fun hr => hend D a w h hD hr, fun i hi => wpOp_mono (fun a' w' h' => ?_) (hstep D a w h hD i hi)⟩
  obtain ⟨h1, h2, -⟩ := nA hi hD
  refine wpAny_inv I hstep hend fuel _ a' w' (by simp [hD]) ?_ h'
  have h3 : i < D.size := by omega
  have h4 : D[i] = false := by
   simp only [dn, Array.getD_eq_getD_getElem?] at h2
   rw [Array.getElem?_eq_getElem h3] at h2
   simpa using h2
  rw [Array.toList_setIfInBounds, List.count_set (by simpa using h3)]
  have h5 : D.toList[i]'(by simpa using h3) = false := by simpa using h4
  rw [h5]
  have : false ∈ D.toList := by rw [← h4]; exact Array.getElem_mem_toList h3
  have h6 := List.count_pos_iff.2 this
  generalize D.toList.count false = z at hf h6 ⊢
  have e1 : (if (false == false) = true then 1 else 0 : Nat) = 1 := rfl
  have e2 : (if (true == false) = true then 1 else 0 : Nat) = 0 := rfl
  rw [e1, e2]
  omega
end
structure A6 (B b off k n : Nat) (jc : Nat) (c : aX) (vp : Value) (j : Jb) (u : Value) (W : World) : Prop where
 a0 : W.cell? ⟨B, 0, none⟩ = some (.int .i64 c.sites)
 a1 : W.cell? ⟨B, 1, none⟩ = some vp
 a2 : W.cell? ⟨B, 2, none⟩ = some (.int .i64 c.again)
 a3 : W.cell? ⟨B, 3, none⟩ = some (.int .i64 c.over)
 a5 : W.cell? ⟨B, 5, none⟩ = some (.slice (some ⟨b, off, none⟩) n jc)
 c0 : W.cell? ⟨b, off + k * 7, none⟩ = some (.int .i64 j.id)
 c1 : W.cell? ⟨b, off + k * 7 + 1, none⟩ = some (.string j.prog)
 c2 : W.cell? ⟨b, off + k * 7 + 2, none⟩ = some (.int .i64 j.agg)
 c3 : W.cell? ⟨b, off + k * 7 + 3, none⟩ = some (.int .i64 j.bound)
 c4 : W.cell? ⟨b, off + k * 7 + 4, none⟩ = some (.int .i64 j.fuel)
 c5 : W.cell? ⟨b, off + k * 7 + 5, none⟩ = some u
 c6 : W.cell? ⟨b, off + k * 7 + 6, none⟩ = some (.int .i64 j.parts)
section
variable (w0 : World) (B b off k n jc : Nat) (c : aX) (vp : Value) (j : Jb) (u : Value) (l : List Int)
abbrev bkC (W : World) (bc : Nat) (q : Value) : Prop := az W bc (.int .i64 c.sites) q (.int .i64 c.again) (.int .i64 c.over)
abbrev bkJ (W : World) (bj : Nat) (r : Value) : Prop := aG W bj (.int .i64 j.id) (.string j.prog) (.int .i64 j.agg) (.int .i64 j.bound) (.int .i64 j.fuel) r (.int .i64 j.parts)
def F6 (i : Nat) (v : Value) (W : World) : Prop := match i with
 | 0 => v = .pointer (some ⟨B, 0, none⟩)
 | 1 => v = .pointer (some ⟨B, 0, none⟩)
 | 2 => v = cL c vp
 | 3 => ∃ q qc, v = cL c (.slice q c.splits.length qc) ∧ bv W 0 (.slice q c.splits.length qc) c.splits
 | 4 => v = .pointer (some ⟨B, 5, none⟩)
 | 5 => v = .slice (some ⟨b, off, none⟩) n jc
 | 6 => v = .int .i64 k
 | 7 => v = .pointer (some ⟨b, off + k * 7, none⟩)
 | 8 => v = cJ j u
 | 9 => ∃ r rc, v = cJ j (.slice r l.length rc) ∧ aM W 0 (.slice r l.length rc) l
 | 10 => ∃ bc, v = .pointer (some ⟨bc, 0, none⟩) ∧ w0.heap.size ≤ bc ∧ ∃ x0 x1 x2 x3, az W bc x0 x1 x2 x3
 | _ => ∃ bj, v = .pointer (some ⟨bj, 0, none⟩) ∧ w0.heap.size ≤ bj ∧ ∃ x0 x1 x2 x3 x4 x5 x6, aG W bj x0 x1 x2 x3 x4 x5 x6
def sl6 (i : Nat) : Nat := match i with | 10 => 4 | 11 => 5 | i => 24 + i
structure KS (W W' : World) : Prop where
 s : dC 93 W W'
 n : dC 3 W W'
theorem KS.of {W W' : World} (h : Below W.heap.size W W') : KS W W' := ⟨.belowP h, .belowP h⟩
theorem bv.ks {w w' : World} {base : Nat} {v : Value} {l : List cM} (h : bv w base v l) (k : KS w w') : bv w' base v l := by
 obtain ⟨xs, hx, ha⟩ := h
 refine ⟨xs, ⟨hx.1, ?_⟩, ha.keepT k.n⟩
 rcases hx.2 with ⟨h1, h2⟩ | ⟨g, cap, cur, h1, h2, h3, h4⟩
 ·exact .inl ⟨h1, h2⟩
 ·exact .inr ⟨g, cap, cur, h1, h2, k.s g cur h3, h4⟩
theorem F6.keep {i : Nat} {v : Value} {W W' : World} (h : F6 w0 B b off k n jc c vp j u l i v W) (hi : i < 12) (hk : KS W W') (hc : ∀ bc x0 x1 x2 x3, az W bc x0 x1 x2 x3 → ∃ y0 y1 y2 y3, az W' bc y0 y1 y2 y3) (hj : ∀ bc x0 x1 x2 x3 x4 x5 x6, aG W bc x0 x1 x2 x3 x4 x5 x6 → ∃ y0 y1 y2 y3 y4 y5 y6, aG W' bc y0 y1 y2 y3 y4 y5 y6) : F6 w0 B b off k n jc c vp j u l i v W' := by
 match i, hi with
 | 0, _ | 1, _ | 2, _ | 4, _ | 5, _ | 6, _ | 7, _ | 8, _ => exact h
 | 3, _ => obtain ⟨q, qc, e, ho⟩ := h; exact ⟨q, qc, e, ho.ks hk⟩
 | 9, _ => obtain ⟨q, qc, e, ho⟩ := h; exact ⟨q, qc, e, ho.keepT hk.n⟩
 | 10, _ => obtain ⟨bc, e, hb, x0, x1, x2, x3, hx⟩ := h; exact ⟨bc, e, hb, hc _ _ _ _ _ hx⟩
 | 11, _ => obtain ⟨bc, e, hb, x0, x1, x2, x3, x4, x5, x6, hx⟩ := h; exact ⟨bc, e, hb, hj _ _ _ _ _ _ _ _ hx⟩
structure R6 (a0 : Act) (D : Array Bool) (a : Act) (W : World) : Prop where
 de : a.defers = a0.defers
 sz : a.tmps.size = a0.tmps.size
 ot : ∀ m, (∀ i, i < 12 → m ≠ sl6 i) → a.tmps[m]? = a0.tmps[m]?
 bel : Below w0.heap.size w0 W
 all : ∀ i, i < 12 → dn D i = true → ∃ v, a.tmps[sl6 i]? = some v ∧ F6 w0 B b off k n jc c vp j u l i v W
 s12 : dn D 12 = true → dn D 3 = true ∧ dn D 10 = true ∧ ∃ bc q qc, a.tmps[4]? = some (.pointer (some ⟨bc, 0, none⟩)) ∧ a.tmps[27]? = some (cL c (.slice q c.splits.length qc)) ∧ bkC c W bc (.slice q c.splits.length qc)
 s13 : dn D 13 = true → dn D 9 = true ∧ dn D 11 = true ∧ ∃ bj r rc, a.tmps[5]? = some (.pointer (some ⟨bj, 0, none⟩)) ∧ a.tmps[33]? = some (cJ j (.slice r l.length rc)) ∧ bkJ j W bj (.slice r l.length rc)
variable {w0 B b off k n jc c vp j u l}
theorem kj {i i' : Nat} (h : i < 12) (h' : i' < 12) (hne : i ≠ i') : sl6 i ≠ sl6 i' := by
 unfold sl6
 match i, i', h, h' with
 | 0, 0, _, _ | 1, 1, _, _ | 2, 2, _, _ | 3, 3, _, _ | 4, 4, _, _ | 5, 5, _, _ | 6, 6, _, _ | 7, 7, _, _ | 8, 8, _, _ | 9, 9, _, _ | 10, 10, _, _ | 11, 11, _, _ => exact absurd rfl hne
 | i, i', h, h' => split <;> split <;> omega
theorem R6.step {a0 : Act} {D : Array Bool} {a : Act} {W W' : World} {i : Nat} {v : Value} (h : R6 w0 B b off k n jc c vp j u l a0 D a W) (hi : i < 12) (hD : D.size = 14) (hn : dn D i = false) (hsz : 34 ≤ a0.tmps.size) (hb : Below W.heap.size W W') (hf : F6 w0 B b off k n jc c vp j u l i v W') : R6 w0 B b off k n jc c vp j u l a0 (D.setIfInBounds i true) ⟨a.tmps.setIfInBounds (sl6 i) v, a.defers⟩ W' := by
 have hs : ∀ i, i < 12 → sl6 i ≤ 33 := by decide
 have hlt : sl6 i < a.tmps.size := by have := h.sz; have := hs i hi; omega
 have get : ∀ m, m ≠ sl6 i → (a.tmps.setIfInBounds (sl6 i) v)[m]? = a.tmps[m]? := fun m hm => Array.getElem?_setIfInBounds_ne (by omega)
 have hK : ∀ m w, F6 w0 B b off k n jc c vp j u l m w W → m < 12 → F6 w0 B b off k n jc c vp j u l m w W' := fun m w hm hl => hm.keep _ _ _ _ _ _ _ _ _ _ _ _ hl (.of hb) (fun bc x0 x1 x2 x3 hx => ⟨_, _, _, _, hx.below hb⟩) (fun bc x0 x1 x2 x3 x4 x5 x6 hx => ⟨_, _, _, _, _, _, _, hx.below hb⟩)
 refine ⟨h.de, by simpa using h.sz, fun m hm => (get m (hm i hi)).trans (h.ot m hm), ag h.bel hb, fun m hm hd => ?_, fun hd => ?_, fun hd => ?_⟩
 ·by_cases he : m = i
  ·subst he
   exact ⟨v, by rw [Array.getElem?_setIfInBounds_self_of_lt hlt], hf⟩
  ·rw [aO he] at hd
   obtain ⟨x, hx, hfx⟩ := h.all m hm hd
   exact ⟨x, (get _ (kj hm hi he)).trans hx, hK _ _ hfx hm⟩
 ·rw [aO (by omega)] at hd
  obtain ⟨h3, h10, bc, q, qc, e1, e2, e3⟩ := h.s12 hd
  have n3 : 3 ≠ i := fun e => by rw [← e, h3] at hn; cases hn
  have n10 : 10 ≠ i := fun e => by rw [← e, h10] at hn; cases hn
  exact ⟨(aO n3).trans h3, (aO n10).trans h10, bc, q, qc, (get 4 (kj (i := 10) (by omega) hi n10)).trans e1, (get 27 (kj (i := 3) (by omega) hi n3)).trans e2, e3.below hb⟩
 ·rw [aO (by omega)] at hd
  obtain ⟨h3, h10, bc, q, qc, e1, e2, e3⟩ := h.s13 hd
  have n3 : 9 ≠ i := fun e => by rw [← e, h3] at hn; cases hn
  have n10 : 11 ≠ i := fun e => by rw [← e, h10] at hn; cases hn
  exact ⟨(aO n3).trans h3, (aO n10).trans h10, bc, q, qc, (get 5 (kj (i := 11) (by omega) hi n10)).trans e1, (get 33 (kj (i := 9) (by omega) hi n3)).trans e2, e3.below hb⟩
end
section
variable {Q : Exit → Act → World → Prop} {w0 : World} {B b off k n jc : Nat} {c : aX} {vp : Value} {j : Jb} {u : Value} {l : List Int}
def jj : Array Oper := #[{ dst := some 24, op := Go.Op.fieldAddr 30 (Go.Operand.tmp 1) 0, type := 0, pos := "law.go:85", after := #[], guard := none }, { dst := some 25, op := Go.Op.fieldAddr 27 (Go.Operand.tmp 24) 0, type := 0, pos := "law.go:85", after := #[{ on := 0, ground := Go.Ground.data }], guard := none }, { dst := some 26, op := Go.Op.load 24 (Go.Operand.tmp 25), type := 24, pos := "law.go:85", after := #[{ on := 1, ground := Go.Ground.data }], guard := none }, { dst := some 27, op := Go.Op.call { callee := Go.Callee.value (Go.Operand.func 16), args := #[Go.Operand.tmp 26], argTypes := #[24] }, type := 24, pos := "law.go:85", after := #[{ on := 2, ground := Go.Ground.data }], guard := none }, { dst := some 28, op := Go.Op.fieldAddr 30 (Go.Operand.tmp 1) 1, type := 0, pos := "law.go:85", after := #[], guard := none }, { dst := some 29, op := Go.Op.load 28 (Go.Operand.tmp 28), type := 28, pos := "law.go:85", after := #[{ on := 4, ground := Go.Ground.data }], guard := none }, { dst := some 30, op := Go.Op.move (Go.Operand.tmp 3), type := 3, pos := "law.go:85", after := #[], guard := none }, { dst := some 31, op := Go.Op.indexAddr 28 (Go.Operand.tmp 29) (Go.Operand.tmp 30), type := 0, pos := "law.go:85", after := #[{ on := 5, ground := Go.Ground.data }, { on := 6, ground := Go.Ground.data }], guard := none }, { dst := some 32, op := Go.Op.load 37 (Go.Operand.tmp 31), type := 37, pos := "law.go:85", after := #[{ on := 7, ground := Go.Ground.data }], guard := none }, { dst := some 33, op := Go.Op.call { callee := Go.Callee.value (Go.Operand.func 17), args := #[Go.Operand.tmp 32], argTypes := #[37] }, type := 37, pos := "law.go:85", after := #[{ on := 8, ground := Go.Ground.data }, { on := 3, ground := Go.Ground.chain }], guard := none }, { dst := some 4, op := Go.Op.alloc 24, type := 0, pos := "law.go:85", after := #[], guard := none }, { dst := some 5, op := Go.Op.alloc 37, type := 0, pos := "law.go:85", after := #[], guard := none }, { dst := none, op := Go.Op.store 24 (Go.Operand.tmp 4) (Go.Operand.tmp 27), type := 0, pos := "law.go:85", after := #[{ on := 10, ground := Go.Ground.data }, { on := 3, ground := Go.Ground.data }, { on := 9, ground := Go.Ground.chain }, { on := 0, ground := Go.Ground.phase }, { on := 1, ground := Go.Ground.phase }, { on := 2, ground := Go.Ground.phase }, { on := 3, ground := Go.Ground.phase }, { on := 4, ground := Go.Ground.textOnly Go.Departure.lateStores }, { on := 5, ground := Go.Ground.textOnly Go.Departure.lateStores }, { on := 6, ground := Go.Ground.textOnly Go.Departure.lateStores }, { on := 7, ground := Go.Ground.textOnly Go.Departure.lateStores }, { on := 8, ground := Go.Ground.textOnly Go.Departure.lateStores }, { on := 9, ground := Go.Ground.textOnly Go.Departure.lateStoresUnsure }, { on := 10, ground := Go.Ground.phase }, { on := 11, ground := Go.Ground.phase }], guard := none }, { dst := none, op := Go.Op.store 37 (Go.Operand.tmp 5) (Go.Operand.tmp 33), type := 0, pos := "law.go:85", after := #[{ on := 11, ground := Go.Ground.data }, { on := 9, ground := Go.Ground.data }, { on := 12, ground := Go.Ground.chain }, { on := 0, ground := Go.Ground.phase }, { on := 1, ground := Go.Ground.phase }, { on := 2, ground := Go.Ground.phase }, { on := 3, ground := Go.Ground.phase }, { on := 4, ground := Go.Ground.phase }, { on := 5, ground := Go.Ground.phase }, { on := 6, ground := Go.Ground.phase }, { on := 7, ground := Go.Ground.phase }, { on := 8, ground := Go.Ground.phase }, { on := 9, ground := Go.Ground.phase }, { on := 10, ground := Go.Ground.phase }, { on := 11, ground := Go.Ground.phase }, { on := 12, ground := Go.Ground.phase }], guard := none }]
theorem r6_0 {a0 : Act} {D : Array Bool} {a : Act} {W : World} (h : R6 w0 B b off k n jc c vp j u l a0 D a W) (hA : ∀ W, Below w0.heap.size w0 W → A6 B b off k n jc c vp j u W) (h1 : a0.tmps[1]? = some (.pointer (some ⟨B, 0, none⟩))) (h3 : a0.tmps[3]? = some (.int .i64 k)) (hkn : k < n) (hD : D.size = 14) (hsz : 34 ≤ a0.tmps.size) (hn : dn D 0 = false)  : wpOp Tryz.prog jj Q 0 (R6 w0 B b off k n jc c vp j u l a0 (D.setIfInBounds 0 true)) a W := by
 refine wpOp_step (o := { dst := some 24, op := Go.Op.fieldAddr 30 (Go.Operand.tmp 1) 0, type := 0, pos := "law.go:85", after := #[], guard := none }) rfl (fun K' hK => ?_)
 have e : a.tmps[1]? = some (.pointer (some ⟨B, 0, none⟩)) := (h.ot 1 (by decide)).trans h1
 have hS := hK _ W (h.step (i := 0) (v := .pointer (some ⟨B, 0, none⟩)) (by omega) hD hn hsz (Below.refl _ _) rfl)
 clear hA hK h hn
 go_simp
 first | exact hS | trace_state
theorem r6_1 {a0 : Act} {D : Array Bool} {a : Act} {W : World} (h : R6 w0 B b off k n jc c vp j u l a0 D a W) (hA : ∀ W, Below w0.heap.size w0 W → A6 B b off k n jc c vp j u W) (h1 : a0.tmps[1]? = some (.pointer (some ⟨B, 0, none⟩))) (h3 : a0.tmps[3]? = some (.int .i64 k)) (hkn : k < n) (hD : D.size = 14) (hsz : 34 ≤ a0.tmps.size) (hn : dn D 1 = false) (p0 : dn D 0 = true) : wpOp Tryz.prog jj Q 1 (R6 w0 B b off k n jc c vp j u l a0 (D.setIfInBounds 1 true)) a W := by
 refine wpOp_step (o := { dst := some 25, op := Go.Op.fieldAddr 27 (Go.Operand.tmp 24) 0, type := 0, pos := "law.go:85", after := #[{ on := 0, ground := Go.Ground.data }], guard := none }) rfl (fun K' hK => ?_)
 have e0 : a.tmps[24]? = some (.pointer (some ⟨B, 0, none⟩)) := by obtain ⟨v, hv, hf⟩ := h.all 0 (by omega) p0; rw [show v = _ from hf] at hv; exact hv
 have hS := hK _ W (h.step (i := 1) (v := .pointer (some ⟨B, 0, none⟩)) (by omega) hD hn hsz (Below.refl _ _) rfl)
 clear hA hK h hn
 go_simp
 first | exact hS | trace_state
theorem r6_2 {a0 : Act} {D : Array Bool} {a : Act} {W : World} (h : R6 w0 B b off k n jc c vp j u l a0 D a W) (hA : ∀ W, Below w0.heap.size w0 W → A6 B b off k n jc c vp j u W) (h1 : a0.tmps[1]? = some (.pointer (some ⟨B, 0, none⟩))) (h3 : a0.tmps[3]? = some (.int .i64 k)) (hkn : k < n) (hD : D.size = 14) (hsz : 34 ≤ a0.tmps.size) (hn : dn D 2 = false) (p1 : dn D 1 = true) : wpOp Tryz.prog jj Q 2 (R6 w0 B b off k n jc c vp j u l a0 (D.setIfInBounds 2 true)) a W := by
 refine wpOp_step (o := { dst := some 26, op := Go.Op.load 24 (Go.Operand.tmp 25), type := 24, pos := "law.go:85", after := #[{ on := 1, ground := Go.Ground.data }], guard := none }) rfl (fun K' hK => ?_)
 have e1 : a.tmps[25]? = some (.pointer (some ⟨B, 0, none⟩)) := by obtain ⟨v, hv, hf⟩ := h.all 1 (by omega) p1; rw [show v = _ from hf] at hv; exact hv
 obtain ⟨a0, a1, a2, a3, a5, c0, c1, c2, c3, c4, c5, c6⟩ := hA W h.bel
 have hS := hK _ W (h.step (i := 2) (v := cL c vp) (by omega) hD hn hsz (Below.refl _ _) rfl)
 clear hA hK h hn
 go_simp
 first | exact hS | trace_state
theorem r6_4 {a0 : Act} {D : Array Bool} {a : Act} {W : World} (h : R6 w0 B b off k n jc c vp j u l a0 D a W) (hA : ∀ W, Below w0.heap.size w0 W → A6 B b off k n jc c vp j u W) (h1 : a0.tmps[1]? = some (.pointer (some ⟨B, 0, none⟩))) (h3 : a0.tmps[3]? = some (.int .i64 k)) (hkn : k < n) (hD : D.size = 14) (hsz : 34 ≤ a0.tmps.size) (hn : dn D 4 = false)  : wpOp Tryz.prog jj Q 4 (R6 w0 B b off k n jc c vp j u l a0 (D.setIfInBounds 4 true)) a W := by
 refine wpOp_step (o := { dst := some 28, op := Go.Op.fieldAddr 30 (Go.Operand.tmp 1) 1, type := 0, pos := "law.go:85", after := #[], guard := none }) rfl (fun K' hK => ?_)
 have e : a.tmps[1]? = some (.pointer (some ⟨B, 0, none⟩)) := (h.ot 1 (by decide)).trans h1
 have hS := hK _ W (h.step (i := 4) (v := .pointer (some ⟨B, 5, none⟩)) (by omega) hD hn hsz (Below.refl _ _) rfl)
 clear hA hK h hn
 go_simp
 first | exact hS | trace_state
theorem r6_5 {a0 : Act} {D : Array Bool} {a : Act} {W : World} (h : R6 w0 B b off k n jc c vp j u l a0 D a W) (hA : ∀ W, Below w0.heap.size w0 W → A6 B b off k n jc c vp j u W) (h1 : a0.tmps[1]? = some (.pointer (some ⟨B, 0, none⟩))) (h3 : a0.tmps[3]? = some (.int .i64 k)) (hkn : k < n) (hD : D.size = 14) (hsz : 34 ≤ a0.tmps.size) (hn : dn D 5 = false) (p4 : dn D 4 = true) : wpOp Tryz.prog jj Q 5 (R6 w0 B b off k n jc c vp j u l a0 (D.setIfInBounds 5 true)) a W := by
 refine wpOp_step (o := { dst := some 29, op := Go.Op.load 28 (Go.Operand.tmp 28), type := 28, pos := "law.go:85", after := #[{ on := 4, ground := Go.Ground.data }], guard := none }) rfl (fun K' hK => ?_)
 have e4 : a.tmps[28]? = some (.pointer (some ⟨B, 5, none⟩)) := by obtain ⟨v, hv, hf⟩ := h.all 4 (by omega) p4; rw [show v = _ from hf] at hv; exact hv
 obtain ⟨a0, a1, a2, a3, a5, c0, c1, c2, c3, c4, c5, c6⟩ := hA W h.bel
 have hS := hK _ W (h.step (i := 5) (v := .slice (some ⟨b, off, none⟩) n jc) (by omega) hD hn hsz (Below.refl _ _) rfl)
 clear hA hK h hn
 go_simp
 first | exact hS | trace_state
theorem r6_6 {a0 : Act} {D : Array Bool} {a : Act} {W : World} (h : R6 w0 B b off k n jc c vp j u l a0 D a W) (hA : ∀ W, Below w0.heap.size w0 W → A6 B b off k n jc c vp j u W) (h1 : a0.tmps[1]? = some (.pointer (some ⟨B, 0, none⟩))) (h3 : a0.tmps[3]? = some (.int .i64 k)) (hkn : k < n) (hD : D.size = 14) (hsz : 34 ≤ a0.tmps.size) (hn : dn D 6 = false)  : wpOp Tryz.prog jj Q 6 (R6 w0 B b off k n jc c vp j u l a0 (D.setIfInBounds 6 true)) a W := by
 refine wpOp_step (o := { dst := some 30, op := Go.Op.move (Go.Operand.tmp 3), type := 3, pos := "law.go:85", after := #[], guard := none }) rfl (fun K' hK => ?_)
 have e : a.tmps[3]? = some (.int .i64 k) := (h.ot 3 (by decide)).trans h3
 have hS := hK _ W (h.step (i := 6) (v := .int .i64 k) (by omega) hD hn hsz (Below.refl _ _) rfl)
 clear hA hK h hn
 go_simp
 first | exact hS | trace_state
theorem r6_7 {a0 : Act} {D : Array Bool} {a : Act} {W : World} (h : R6 w0 B b off k n jc c vp j u l a0 D a W) (hA : ∀ W, Below w0.heap.size w0 W → A6 B b off k n jc c vp j u W) (h1 : a0.tmps[1]? = some (.pointer (some ⟨B, 0, none⟩))) (h3 : a0.tmps[3]? = some (.int .i64 k)) (hkn : k < n) (hD : D.size = 14) (hsz : 34 ≤ a0.tmps.size) (hn : dn D 7 = false) (p5 : dn D 5 = true) (p6 : dn D 6 = true) : wpOp Tryz.prog jj Q 7 (R6 w0 B b off k n jc c vp j u l a0 (D.setIfInBounds 7 true)) a W := by
 refine wpOp_step (o := { dst := some 31, op := Go.Op.indexAddr 28 (Go.Operand.tmp 29) (Go.Operand.tmp 30), type := 0, pos := "law.go:85", after := #[{ on := 5, ground := Go.Ground.data }, { on := 6, ground := Go.Ground.data }], guard := none }) rfl (fun K' hK => ?_)
 have e5 : a.tmps[29]? = some (.slice (some ⟨b, off, none⟩) n jc) := by obtain ⟨v, hv, hf⟩ := h.all 5 (by omega) p5; rw [show v = _ from hf] at hv; exact hv
 have e6 : a.tmps[30]? = some (.int .i64 k) := by obtain ⟨v, hv, hf⟩ := h.all 6 (by omega) p6; rw [show v = _ from hf] at hv; exact hv
 have hkn' : (k : Int) < (n : Int) := by omega
 have hk0 : (0 : Int) ≤ (k : Int) := by omega
 have hS := hK _ W (h.step (i := 7) (v := .pointer (some ⟨b, off + k * 7, none⟩)) (by omega) hD hn hsz (Below.refl _ _) rfl)
 clear hA hK h hn
 go_simp
 first | exact hS | trace_state
theorem r6_8 {a0 : Act} {D : Array Bool} {a : Act} {W : World} (h : R6 w0 B b off k n jc c vp j u l a0 D a W) (hA : ∀ W, Below w0.heap.size w0 W → A6 B b off k n jc c vp j u W) (h1 : a0.tmps[1]? = some (.pointer (some ⟨B, 0, none⟩))) (h3 : a0.tmps[3]? = some (.int .i64 k)) (hkn : k < n) (hD : D.size = 14) (hsz : 34 ≤ a0.tmps.size) (hn : dn D 8 = false) (p7 : dn D 7 = true) : wpOp Tryz.prog jj Q 8 (R6 w0 B b off k n jc c vp j u l a0 (D.setIfInBounds 8 true)) a W := by
 refine wpOp_step (o := { dst := some 32, op := Go.Op.load 37 (Go.Operand.tmp 31), type := 37, pos := "law.go:85", after := #[{ on := 7, ground := Go.Ground.data }], guard := none }) rfl (fun K' hK => ?_)
 have e7 : a.tmps[31]? = some (.pointer (some ⟨b, off + k * 7, none⟩)) := by obtain ⟨v, hv, hf⟩ := h.all 7 (by omega) p7; rw [show v = _ from hf] at hv; exact hv
 obtain ⟨a0, a1, a2, a3, a5, c0, c1, c2, c3, c4, c5, c6⟩ := hA W h.bel
 have hS := hK _ W (h.step (i := 8) (v := cJ j u) (by omega) hD hn hsz (Below.refl _ _) rfl)
 clear hA hK h hn
 go_simp
 first | exact hS | trace_state
theorem r6_3 {a0 : Act} {D : Array Bool} {a : Act} {W : World} (h : R6 w0 B b off k n jc c vp j u l a0 D a W) (hD : D.size = 14) (hsz : 34 ≤ a0.tmps.size) (hC : ∀ W, Below w0.heap.size w0 W → Calls Tryz.prog 16 #[cL c vp] W fun e w' => (∃ v', e = .returned (cL c v') ∧ bv w' W.heap.size v' c.splits) ∧ Below W.heap.size W w') (hn : dn D 3 = false) (p2 : dn D 2 = true) : wpOp Tryz.prog jj Q 3 (R6 w0 B b off k n jc c vp j u l a0 (D.setIfInBounds 3 true)) a W := by
 refine wpOp_step (o := { dst := some 27, op := Go.Op.call { callee := Go.Callee.value (Go.Operand.func 16), args := #[Go.Operand.tmp 26], argTypes := #[24] }, type := 24, pos := "law.go:85", after := #[{ on := 2, ground := Go.Ground.data }], guard := none }) rfl (fun K' hK => ?_)
 have e2 : a.tmps[26]? = some (cL c vp) := by obtain ⟨v, hv, hf⟩ := h.all 2 (by omega) p2; rw [show v = _ from hf] at hv; exact hv
 have hS := fun W' v hb hf => hK _ W' (h.step (i := 3) (v := v) (W' := W') (by omega) hD hn hsz hb hf)
 have hCC := hC W h.bel
 clear hK h hn hC
 go_simp
 refine hCC.mono ?_
 rintro e W2 ⟨⟨v2, rfl, ho2⟩, hb2⟩
 obtain ⟨q, qc, rfl⟩ := ho2.shape
 exact hS W2 _ hb2 ⟨q, qc, rfl, ho2.lower (Nat.zero_le _)⟩
theorem r6_9 {a0 : Act} {D : Array Bool} {a : Act} {W : World} (h : R6 w0 B b off k n jc c vp j u l a0 D a W) (hD : D.size = 14) (hsz : 34 ≤ a0.tmps.size) (hC : ∀ W, Below w0.heap.size w0 W → Calls Tryz.prog 17 #[cJ j u] W fun e w' => (∃ v', e = .returned (cJ j v') ∧ aM w' W.heap.size v' l) ∧ Below W.heap.size W w') (hn : dn D 9 = false) (p8 : dn D 8 = true) : wpOp Tryz.prog jj Q 9 (R6 w0 B b off k n jc c vp j u l a0 (D.setIfInBounds 9 true)) a W := by
 refine wpOp_step (o := { dst := some 33, op := Go.Op.call { callee := Go.Callee.value (Go.Operand.func 17), args := #[Go.Operand.tmp 32], argTypes := #[37] }, type := 37, pos := "law.go:85", after := #[{ on := 8, ground := Go.Ground.data }, { on := 3, ground := Go.Ground.chain }], guard := none }) rfl (fun K' hK => ?_)
 have e8 : a.tmps[32]? = some (cJ j u) := by obtain ⟨v, hv, hf⟩ := h.all 8 (by omega) p8; rw [show v = _ from hf] at hv; exact hv
 have hS := fun W' v hb hf => hK _ W' (h.step (i := 9) (v := v) (W' := W') (by omega) hD hn hsz hb hf)
 have hCC := hC W h.bel
 clear hK h hn hC
 go_simp
 refine hCC.mono ?_
 rintro e W2 ⟨⟨v2, rfl, ho2⟩, hb2⟩
 obtain ⟨q, qc, rfl⟩ := ho2.shape
 exact hS W2 _ hb2 ⟨q, qc, rfl, aM.down ho2 (Nat.zero_le _)⟩
theorem r6_10 {a0 : Act} {D : Array Bool} {a : Act} {W : World} (h : R6 w0 B b off k n jc c vp j u l a0 D a W) (hD : D.size = 14) (hsz : 34 ≤ a0.tmps.size)  (hn : dn D 10 = false)  : wpOp Tryz.prog jj Q 10 (R6 w0 B b off k n jc c vp j u l a0 (D.setIfInBounds 10 true)) a W := by
 refine wpOp_step (o := { dst := some 4, op := Go.Op.alloc 24, type := 0, pos := "law.go:85", after := #[], guard := none }) rfl (fun K' hK => ?_)
 have hS := hK _ (W.alloc (.cells #[.int .i64 0, .slice none 0 0, .int .i64 0, .int .i64 0] 24)) (h.step (i := 10) (v := .pointer (some ⟨W.heap.size, 0, none⟩)) (by omega) hD hn hsz (dN W _) ⟨W.heap.size, rfl, h.bel.size, _, _, _, _, az.new W _ _ _ _⟩)
 clear hK h hn
 go_simp
 exact hS
theorem r6_11 {a0 : Act} {D : Array Bool} {a : Act} {W : World} (h : R6 w0 B b off k n jc c vp j u l a0 D a W) (hD : D.size = 14) (hsz : 34 ≤ a0.tmps.size)  (hn : dn D 11 = false)  : wpOp Tryz.prog jj Q 11 (R6 w0 B b off k n jc c vp j u l a0 (D.setIfInBounds 11 true)) a W := by
 refine wpOp_step (o := { dst := some 5, op := Go.Op.alloc 37, type := 0, pos := "law.go:85", after := #[], guard := none }) rfl (fun K' hK => ?_)
 have hS := hK _ (W.alloc (.cells #[.int .i64 0, .string ⟨#[]⟩, .int .i64 0, .int .i64 0, .int .i64 0, .slice none 0 0, .int .i64 0] 37)) (h.step (i := 11) (v := .pointer (some ⟨W.heap.size, 0, none⟩)) (by omega) hD hn hsz (dN W _) ⟨W.heap.size, rfl, h.bel.size, _, _, _, _, _, _, _, aG.new W _ _ _ _ _ _ _⟩)
 clear hK h hn
 go_simp
 exact hS
theorem farC (W : World) (bc g : Nat) (y0 y1 y2 y3 : Value) (hne : g ≠ bc) : ((((W.setCell ⟨bc, 0, none⟩ (y0)).setCell ⟨bc, 1, none⟩ (y1)).setCell ⟨bc, 2, none⟩ (y2)).setCell ⟨bc, 3, none⟩ (y3)).heap[g]? = W.heap[g]? := by rw [Below.heap_setCell _ _ _ _ (by show g ≠ bc; exact hne), Below.heap_setCell _ _ _ _ (by show g ≠ bc; exact hne), Below.heap_setCell _ _ _ _ (by show g ≠ bc; exact hne), Below.heap_setCell _ _ _ _ (by show g ≠ bc; exact hne)]
theorem keepC {W : World} {bc : Nat} {x0 x1 x2 x3 : Value} (hx : az W bc x0 x1 x2 x3) (y0 y1 y2 y3 : Value) (T : TypeId) (hT : T ≠ 24) : dC T W ((((W.setCell ⟨bc, 0, none⟩ (y0)).setCell ⟨bc, 1, none⟩ (y1)).setCell ⟨bc, 2, none⟩ (y2)).setCell ⟨bc, 3, none⟩ (y3)) := fun g cur hg => (farC W bc g y0 y1 y2 y3 (fun e => by
 subst e
 rw [show W.heap[g]? = _ from hx] at hg
 injection hg with hg
 injection hg with _ hg
 exact hT hg.symm)).trans hg
theorem farJ (W : World) (bc g : Nat) (y0 y1 y2 y3 y4 y5 y6 : Value) (hne : g ≠ bc) : (((((((W.setCell ⟨bc, 0, none⟩ (y0)).setCell ⟨bc, 1, none⟩ (y1)).setCell ⟨bc, 2, none⟩ (y2)).setCell ⟨bc, 3, none⟩ (y3)).setCell ⟨bc, 4, none⟩ (y4)).setCell ⟨bc, 5, none⟩ (y5)).setCell ⟨bc, 6, none⟩ (y6)).heap[g]? = W.heap[g]? := by rw [Below.heap_setCell _ _ _ _ (by show g ≠ bc; exact hne), Below.heap_setCell _ _ _ _ (by show g ≠ bc; exact hne), Below.heap_setCell _ _ _ _ (by show g ≠ bc; exact hne), Below.heap_setCell _ _ _ _ (by show g ≠ bc; exact hne), Below.heap_setCell _ _ _ _ (by show g ≠ bc; exact hne), Below.heap_setCell _ _ _ _ (by show g ≠ bc; exact hne), Below.heap_setCell _ _ _ _ (by show g ≠ bc; exact hne)]
theorem keepJ {W : World} {bc : Nat} {x0 x1 x2 x3 x4 x5 x6 : Value} (hx : aG W bc x0 x1 x2 x3 x4 x5 x6) (y0 y1 y2 y3 y4 y5 y6 : Value) (T : TypeId) (hT : T ≠ 37) : dC T W (((((((W.setCell ⟨bc, 0, none⟩ (y0)).setCell ⟨bc, 1, none⟩ (y1)).setCell ⟨bc, 2, none⟩ (y2)).setCell ⟨bc, 3, none⟩ (y3)).setCell ⟨bc, 4, none⟩ (y4)).setCell ⟨bc, 5, none⟩ (y5)).setCell ⟨bc, 6, none⟩ (y6)) := fun g cur hg => (farJ W bc g y0 y1 y2 y3 y4 y5 y6 (fun e => by
 subst e
 rw [show W.heap[g]? = _ from hx] at hg
 injection hg with hg
 injection hg with _ hg
 exact hT hg.symm)).trans hg
theorem r6_12 {a0 : Act} {D : Array Bool} {a : Act} {W : World} (h : R6 w0 B b off k n jc c vp j u l a0 D a W) (hD : D.size = 14) (hsz : 34 ≤ a0.tmps.size)  (hn : dn D 12 = false) (p3 : dn D 3 = true) (p10 : dn D 10 = true) : wpOp Tryz.prog jj Q 12 (R6 w0 B b off k n jc c vp j u l a0 (D.setIfInBounds 12 true)) a W := by
 refine wpOp_step (o := { dst := none, op := Go.Op.store 24 (Go.Operand.tmp 4) (Go.Operand.tmp 27), type := 0, pos := "law.go:85", after := #[{ on := 10, ground := Go.Ground.data }, { on := 3, ground := Go.Ground.data }, { on := 9, ground := Go.Ground.chain }, { on := 0, ground := Go.Ground.phase }, { on := 1, ground := Go.Ground.phase }, { on := 2, ground := Go.Ground.phase }, { on := 3, ground := Go.Ground.phase }, { on := 4, ground := Go.Ground.textOnly Go.Departure.lateStores }, { on := 5, ground := Go.Ground.textOnly Go.Departure.lateStores }, { on := 6, ground := Go.Ground.textOnly Go.Departure.lateStores }, { on := 7, ground := Go.Ground.textOnly Go.Departure.lateStores }, { on := 8, ground := Go.Ground.textOnly Go.Departure.lateStores }, { on := 9, ground := Go.Ground.textOnly Go.Departure.lateStoresUnsure }, { on := 10, ground := Go.Ground.phase }, { on := 11, ground := Go.Ground.phase }], guard := none }) rfl (fun K' hK => ?_)
 obtain ⟨v, e1, q, qc, rfl, ho⟩ := h.all 3 (by omega) p3
 obtain ⟨v, e2, bc, rfl, hlo, x0, x1, x2, x3, hx⟩ := h.all 10 (by omega) p10
 have e1 : a.tmps[27]? = some (cL c (.slice q c.splits.length qc)) := e1
 have e2 : a.tmps[4]? = some (.pointer (some ⟨bc, 0, none⟩)) := e2
 have hks : KS W ((((W.setCell ⟨bc, 0, none⟩ (.int .i64 c.sites)).setCell ⟨bc, 1, none⟩ (.slice q c.splits.length qc)).setCell ⟨bc, 2, none⟩ (.int .i64 c.again)).setCell ⟨bc, 3, none⟩ (.int .i64 c.over)) := ⟨keepC hx (.int .i64 c.sites) (.slice q c.splits.length qc) (.int .i64 c.again) (.int .i64 c.over) _ (by decide), keepC hx (.int .i64 c.sites) (.slice q c.splits.length qc) (.int .i64 c.again) (.int .i64 c.over) _ (by decide)⟩
 have hcc : ∀ g x0 x1 x2 x3, az W g x0 x1 x2 x3 → ∃ y0 y1 y2 y3, az ((((W.setCell ⟨bc, 0, none⟩ (.int .i64 c.sites)).setCell ⟨bc, 1, none⟩ (.slice q c.splits.length qc)).setCell ⟨bc, 2, none⟩ (.int .i64 c.again)).setCell ⟨bc, 3, none⟩ (.int .i64 c.over)) g y0 y1 y2 y3 := fun g x0 x1 x2 x3 hg => by
  by_cases he : g = bc
  ·subst he; exact ⟨_, _, _, _, (hg.put (.int .i64 c.sites) (.slice q c.splits.length qc) (.int .i64 c.again) (.int .i64 c.over)).fin⟩
  ·exact ⟨_, _, _, _, hg.far (farC W bc g (.int .i64 c.sites) (.slice q c.splits.length qc) (.int .i64 c.again) (.int .i64 c.over) he)⟩
 have hjj : ∀ g x0 x1 x2 x3 x4 x5 x6, aG W g x0 x1 x2 x3 x4 x5 x6 → aG ((((W.setCell ⟨bc, 0, none⟩ (.int .i64 c.sites)).setCell ⟨bc, 1, none⟩ (.slice q c.splits.length qc)).setCell ⟨bc, 2, none⟩ (.int .i64 c.again)).setCell ⟨bc, 3, none⟩ (.int .i64 c.over)) g x0 x1 x2 x3 x4 x5 x6 := fun g x0 x1 x2 x3 x4 x5 x6 hg => keepC hx (.int .i64 c.sites) (.slice q c.splits.length qc) (.int .i64 c.again) (.int .i64 c.over) 37 (by decide) g _ hg
 have hS : K' a ((((W.setCell ⟨bc, 0, none⟩ (.int .i64 c.sites)).setCell ⟨bc, 1, none⟩ (.slice q c.splits.length qc)).setCell ⟨bc, 2, none⟩ (.int .i64 c.again)).setCell ⟨bc, 3, none⟩ (.int .i64 c.over)) := hK _ _ ⟨h.de, h.sz, h.ot, nx h.bel hlo (.int .i64 c.sites) (.slice q c.splits.length qc) (.int .i64 c.again) (.int .i64 c.over), fun m hm hd => by
   rw [aO (by omega)] at hd
   obtain ⟨v, hv, hf⟩ := h.all m hm hd
   exact ⟨v, hv, hf.keep _ _ _ _ _ _ _ _ _ _ _ _ hm hks hcc (fun g x0 x1 x2 x3 x4 x5 x6 hg => ⟨_, _, _, _, _, _, _, hjj _ _ _ _ _ _ _ _ hg⟩)⟩, fun _ => ⟨(aO (by omega)).trans p3, (aO (by omega)).trans p10, bc, q, qc, e2, e1, (hx.put (.int .i64 c.sites) (.slice q c.splits.length qc) (.int .i64 c.again) (.int .i64 c.over)).fin⟩, fun hd => by
   rw [aO (by omega)] at hd
   obtain ⟨h9, h11, bj, r, rc, g1, g2, g3⟩ := h.s13 hd
   exact ⟨(aO (by omega)).trans h9, (aO (by omega)).trans h11, bj, r, rc, g1, g2, hjj _ _ _ _ _ _ _ _ g3⟩⟩
 obtain ⟨f0, ⟨z0, g0⟩, f1, ⟨z1, g1⟩, f2, ⟨z2, g2⟩, f3, ⟨z3, g3⟩, -⟩ := hx.put (.int .i64 c.sites) (.slice q c.splits.length qc) (.int .i64 c.again) (.int .i64 c.over)
 clear hK h hn hcc hjj hks
 go_simp
 exact hS
theorem r6_13 {a0 : Act} {D : Array Bool} {a : Act} {W : World} (h : R6 w0 B b off k n jc c vp j u l a0 D a W) (hD : D.size = 14) (hsz : 34 ≤ a0.tmps.size)  (hn : dn D 13 = false) (p9 : dn D 9 = true) (p11 : dn D 11 = true) : wpOp Tryz.prog jj Q 13 (R6 w0 B b off k n jc c vp j u l a0 (D.setIfInBounds 13 true)) a W := by
 refine wpOp_step (o := { dst := none, op := Go.Op.store 37 (Go.Operand.tmp 5) (Go.Operand.tmp 33), type := 0, pos := "law.go:85", after := #[{ on := 11, ground := Go.Ground.data }, { on := 9, ground := Go.Ground.data }, { on := 12, ground := Go.Ground.chain }, { on := 0, ground := Go.Ground.phase }, { on := 1, ground := Go.Ground.phase }, { on := 2, ground := Go.Ground.phase }, { on := 3, ground := Go.Ground.phase }, { on := 4, ground := Go.Ground.phase }, { on := 5, ground := Go.Ground.phase }, { on := 6, ground := Go.Ground.phase }, { on := 7, ground := Go.Ground.phase }, { on := 8, ground := Go.Ground.phase }, { on := 9, ground := Go.Ground.phase }, { on := 10, ground := Go.Ground.phase }, { on := 11, ground := Go.Ground.phase }, { on := 12, ground := Go.Ground.phase }], guard := none }) rfl (fun K' hK => ?_)
 obtain ⟨v, e1, q, qc, rfl, ho⟩ := h.all 9 (by omega) p9
 obtain ⟨v, e2, bc, rfl, hlo, x0, x1, x2, x3, x4, x5, x6, hx⟩ := h.all 11 (by omega) p11
 have e1 : a.tmps[33]? = some (cJ j (.slice q l.length qc)) := e1
 have e2 : a.tmps[5]? = some (.pointer (some ⟨bc, 0, none⟩)) := e2
 have hks : KS W (((((((W.setCell ⟨bc, 0, none⟩ (.int .i64 j.id)).setCell ⟨bc, 1, none⟩ (.string j.prog)).setCell ⟨bc, 2, none⟩ (.int .i64 j.agg)).setCell ⟨bc, 3, none⟩ (.int .i64 j.bound)).setCell ⟨bc, 4, none⟩ (.int .i64 j.fuel)).setCell ⟨bc, 5, none⟩ (.slice q l.length qc)).setCell ⟨bc, 6, none⟩ (.int .i64 j.parts)) := ⟨keepJ hx (.int .i64 j.id) (.string j.prog) (.int .i64 j.agg) (.int .i64 j.bound) (.int .i64 j.fuel) (.slice q l.length qc) (.int .i64 j.parts) _ (by decide), keepJ hx (.int .i64 j.id) (.string j.prog) (.int .i64 j.agg) (.int .i64 j.bound) (.int .i64 j.fuel) (.slice q l.length qc) (.int .i64 j.parts) _ (by decide)⟩
 have hcc : ∀ g x0 x1 x2 x3, az W g x0 x1 x2 x3 → az (((((((W.setCell ⟨bc, 0, none⟩ (.int .i64 j.id)).setCell ⟨bc, 1, none⟩ (.string j.prog)).setCell ⟨bc, 2, none⟩ (.int .i64 j.agg)).setCell ⟨bc, 3, none⟩ (.int .i64 j.bound)).setCell ⟨bc, 4, none⟩ (.int .i64 j.fuel)).setCell ⟨bc, 5, none⟩ (.slice q l.length qc)).setCell ⟨bc, 6, none⟩ (.int .i64 j.parts)) g x0 x1 x2 x3 := fun g x0 x1 x2 x3 hg => keepJ hx (.int .i64 j.id) (.string j.prog) (.int .i64 j.agg) (.int .i64 j.bound) (.int .i64 j.fuel) (.slice q l.length qc) (.int .i64 j.parts) 24 (by decide) g _ hg
 have hjj : ∀ g x0 x1 x2 x3 x4 x5 x6, aG W g x0 x1 x2 x3 x4 x5 x6 → ∃ y0 y1 y2 y3 y4 y5 y6, aG (((((((W.setCell ⟨bc, 0, none⟩ (.int .i64 j.id)).setCell ⟨bc, 1, none⟩ (.string j.prog)).setCell ⟨bc, 2, none⟩ (.int .i64 j.agg)).setCell ⟨bc, 3, none⟩ (.int .i64 j.bound)).setCell ⟨bc, 4, none⟩ (.int .i64 j.fuel)).setCell ⟨bc, 5, none⟩ (.slice q l.length qc)).setCell ⟨bc, 6, none⟩ (.int .i64 j.parts)) g y0 y1 y2 y3 y4 y5 y6 := fun g x0 x1 x2 x3 x4 x5 x6 hg => by
  by_cases he : g = bc
  ·subst he; exact ⟨_, _, _, _, _, _, _, (hg.put (.int .i64 j.id) (.string j.prog) (.int .i64 j.agg) (.int .i64 j.bound) (.int .i64 j.fuel) (.slice q l.length qc) (.int .i64 j.parts)).fin⟩
  ·exact ⟨_, _, _, _, _, _, _, hg.far (farJ W bc g (.int .i64 j.id) (.string j.prog) (.int .i64 j.agg) (.int .i64 j.bound) (.int .i64 j.fuel) (.slice q l.length qc) (.int .i64 j.parts) he)⟩
 have hS : K' a (((((((W.setCell ⟨bc, 0, none⟩ (.int .i64 j.id)).setCell ⟨bc, 1, none⟩ (.string j.prog)).setCell ⟨bc, 2, none⟩ (.int .i64 j.agg)).setCell ⟨bc, 3, none⟩ (.int .i64 j.bound)).setCell ⟨bc, 4, none⟩ (.int .i64 j.fuel)).setCell ⟨bc, 5, none⟩ (.slice q l.length qc)).setCell ⟨bc, 6, none⟩ (.int .i64 j.parts)) := hK _ _ ⟨h.de, h.sz, h.ot, below7 h.bel hlo (.int .i64 j.id) (.string j.prog) (.int .i64 j.agg) (.int .i64 j.bound) (.int .i64 j.fuel) (.slice q l.length qc) (.int .i64 j.parts), fun m hm hd => by
   rw [aO (by omega)] at hd
   obtain ⟨v, hv, hf⟩ := h.all m hm hd
   exact ⟨v, hv, hf.keep _ _ _ _ _ _ _ _ _ _ _ _ hm hks (fun g x0 x1 x2 x3 hg => ⟨_, _, _, _, hcc _ _ _ _ _ hg⟩) hjj⟩, fun hd => by
   rw [aO (by omega)] at hd
   obtain ⟨h9, h11, bj, r, rc, g1, g2, g3⟩ := h.s12 hd
   exact ⟨(aO (by omega)).trans h9, (aO (by omega)).trans h11, bj, r, rc, g1, g2, hcc _ _ _ _ _ g3⟩, fun _ => ⟨(aO (by omega)).trans p9, (aO (by omega)).trans p11, bc, q, qc, e2, e1, (hx.put (.int .i64 j.id) (.string j.prog) (.int .i64 j.agg) (.int .i64 j.bound) (.int .i64 j.fuel) (.slice q l.length qc) (.int .i64 j.parts)).fin⟩⟩
 obtain ⟨f0, ⟨z0, g0⟩, f1, ⟨z1, g1⟩, f2, ⟨z2, g2⟩, f3, ⟨z3, g3⟩, f4, ⟨z4, g4⟩, f5, ⟨z5, g5⟩, f6, ⟨z6, g6⟩, -⟩ := hx.put (.int .i64 j.id) (.string j.prog) (.int .i64 j.agg) (.int .i64 j.bound) (.int .i64 j.fuel) (.slice q l.length qc) (.int .i64 j.parts)
 clear hK h hn hcc hjj hks
 go_simp
 exact hS
theorem reg6_any {a0 : Act} (hA : ∀ W, Below w0.heap.size w0 W → A6 B b off k n jc c vp j u W) (h1 : a0.tmps[1]? = some (.pointer (some ⟨B, 0, none⟩))) (h3 : a0.tmps[3]? = some (.int .i64 k)) (hkn : k < n) (hsz : 34 ≤ a0.tmps.size)
  (hC : ∀ W, Below w0.heap.size w0 W → Calls Tryz.prog 16 #[cL c vp] W fun e w' => (∃ v', e = .returned (cL c v') ∧ bv w' W.heap.size v' c.splits) ∧ Below W.heap.size W w')
  (hJ : ∀ W, Below w0.heap.size w0 W → Calls Tryz.prog 17 #[cJ j u] W fun e w' => (∃ v', e = .returned (cJ j v') ∧ aM w' W.heap.size v' l) ∧ Below W.heap.size W w')
  (hend : ∀ (W : World) (bc bj : Nat) (q : Option Addr) (qc : Nat) (r : Option Addr) (rc : Nat), Below w0.heap.size w0 W → bkC c W bc (.slice q c.splits.length qc) → bkJ j W bj (.slice r l.length rc) → bv W 0 (.slice q c.splits.length qc) c.splits → aM W 0 (.slice r l.length rc) l → Q .normal ⟨((((((((((((a0.tmps.setIfInBounds 24 (.pointer (some ⟨B, 0, none⟩))).setIfInBounds 25 (.pointer (some ⟨B, 0, none⟩))).setIfInBounds 26 (cL c vp)).setIfInBounds 27 (cL c (.slice q c.splits.length qc))).setIfInBounds 28 (.pointer (some ⟨B, 5, none⟩))).setIfInBounds 29 (.slice (some ⟨b, off, none⟩) n jc)).setIfInBounds 30 (.int .i64 k)).setIfInBounds 31 (.pointer (some ⟨b, off + k * 7, none⟩))).setIfInBounds 32 (cJ j u)).setIfInBounds 33 (cJ j (.slice r l.length rc))).setIfInBounds 4 (.pointer (some ⟨bc, 0, none⟩))).setIfInBounds 5 (.pointer (some ⟨bj, 0, none⟩))), a0.defers⟩ W) :
  (Code.region 6 jj true).wp Tryz.prog Q a0 w0 := by
 refine wp_region_any (by kernel_rfl) ?_
 refine wpAny_inv (R6 w0 B b off k n jc c vp j u l a0) ?_ ?_ _ _ _ _ rfl (by decide) ?_
 ·intro D a W h hD i hi
  have hD : D.size = 14 := hD
  obtain ⟨hlt, hn, hp⟩ := nA hi hD
  have hlt : i < 14 := hlt
  match i, hlt with
  | 0, _ => exact r6_0 h hA h1 h3 hkn hD hsz hn
  | 1, _ => exact r6_1 h hA h1 h3 hkn hD hsz hn (hp ({ dst := some 25, op := Go.Op.fieldAddr 27 (Go.Operand.tmp 24) 0, type := 0, pos := "law.go:85", after := #[{ on := 0, ground := Go.Ground.data }], guard := none }) rfl ⟨0, .data⟩ (by simp) rfl)
  | 2, _ => exact r6_2 h hA h1 h3 hkn hD hsz hn (hp ({ dst := some 26, op := Go.Op.load 24 (Go.Operand.tmp 25), type := 24, pos := "law.go:85", after := #[{ on := 1, ground := Go.Ground.data }], guard := none }) rfl ⟨1, .data⟩ (by simp) rfl)
  | 3, _ => exact r6_3 h hD hsz hC hn (hp ({ dst := some 27, op := Go.Op.call { callee := Go.Callee.value (Go.Operand.func 16), args := #[Go.Operand.tmp 26], argTypes := #[24] }, type := 24, pos := "law.go:85", after := #[{ on := 2, ground := Go.Ground.data }], guard := none }) rfl ⟨2, .data⟩ (by simp) rfl)
  | 4, _ => exact r6_4 h hA h1 h3 hkn hD hsz hn
  | 5, _ => exact r6_5 h hA h1 h3 hkn hD hsz hn (hp ({ dst := some 29, op := Go.Op.load 28 (Go.Operand.tmp 28), type := 28, pos := "law.go:85", after := #[{ on := 4, ground := Go.Ground.data }], guard := none }) rfl ⟨4, .data⟩ (by simp) rfl)
  | 6, _ => exact r6_6 h hA h1 h3 hkn hD hsz hn
  | 7, _ => exact r6_7 h hA h1 h3 hkn hD hsz hn (hp ({ dst := some 31, op := Go.Op.indexAddr 28 (Go.Operand.tmp 29) (Go.Operand.tmp 30), type := 0, pos := "law.go:85", after := #[{ on := 5, ground := Go.Ground.data }, { on := 6, ground := Go.Ground.data }], guard := none }) rfl ⟨5, .data⟩ (by simp) rfl) (hp ({ dst := some 31, op := Go.Op.indexAddr 28 (Go.Operand.tmp 29) (Go.Operand.tmp 30), type := 0, pos := "law.go:85", after := #[{ on := 5, ground := Go.Ground.data }, { on := 6, ground := Go.Ground.data }], guard := none }) rfl ⟨6, .data⟩ (by simp) rfl)
  | 8, _ => exact r6_8 h hA h1 h3 hkn hD hsz hn (hp ({ dst := some 32, op := Go.Op.load 37 (Go.Operand.tmp 31), type := 37, pos := "law.go:85", after := #[{ on := 7, ground := Go.Ground.data }], guard := none }) rfl ⟨7, .data⟩ (by simp) rfl)
  | 9, _ => exact r6_9 h hD hsz hJ hn (hp ({ dst := some 33, op := Go.Op.call { callee := Go.Callee.value (Go.Operand.func 17), args := #[Go.Operand.tmp 32], argTypes := #[37] }, type := 37, pos := "law.go:85", after := #[{ on := 8, ground := Go.Ground.data }, { on := 3, ground := Go.Ground.chain }], guard := none }) rfl ⟨8, .data⟩ (by simp) rfl)
  | 10, _ => exact r6_10 h hD hsz hn
  | 11, _ => exact r6_11 h hD hsz hn
  | 12, _ => exact r6_12 h hD hsz hn (hp ({ dst := none, op := Go.Op.store 24 (Go.Operand.tmp 4) (Go.Operand.tmp 27), type := 0, pos := "law.go:85", after := #[{ on := 10, ground := Go.Ground.data }, { on := 3, ground := Go.Ground.data }, { on := 9, ground := Go.Ground.chain }, { on := 0, ground := Go.Ground.phase }, { on := 1, ground := Go.Ground.phase }, { on := 2, ground := Go.Ground.phase }, { on := 3, ground := Go.Ground.phase }, { on := 4, ground := Go.Ground.textOnly Go.Departure.lateStores }, { on := 5, ground := Go.Ground.textOnly Go.Departure.lateStores }, { on := 6, ground := Go.Ground.textOnly Go.Departure.lateStores }, { on := 7, ground := Go.Ground.textOnly Go.Departure.lateStores }, { on := 8, ground := Go.Ground.textOnly Go.Departure.lateStores }, { on := 9, ground := Go.Ground.textOnly Go.Departure.lateStoresUnsure }, { on := 10, ground := Go.Ground.phase }, { on := 11, ground := Go.Ground.phase }], guard := none }) rfl ⟨3, .data⟩ (by simp) rfl) (hp ({ dst := none, op := Go.Op.store 24 (Go.Operand.tmp 4) (Go.Operand.tmp 27), type := 0, pos := "law.go:85", after := #[{ on := 10, ground := Go.Ground.data }, { on := 3, ground := Go.Ground.data }, { on := 9, ground := Go.Ground.chain }, { on := 0, ground := Go.Ground.phase }, { on := 1, ground := Go.Ground.phase }, { on := 2, ground := Go.Ground.phase }, { on := 3, ground := Go.Ground.phase }, { on := 4, ground := Go.Ground.textOnly Go.Departure.lateStores }, { on := 5, ground := Go.Ground.textOnly Go.Departure.lateStores }, { on := 6, ground := Go.Ground.textOnly Go.Departure.lateStores }, { on := 7, ground := Go.Ground.textOnly Go.Departure.lateStores }, { on := 8, ground := Go.Ground.textOnly Go.Departure.lateStores }, { on := 9, ground := Go.Ground.textOnly Go.Departure.lateStoresUnsure }, { on := 10, ground := Go.Ground.phase }, { on := 11, ground := Go.Ground.phase }], guard := none }) rfl ⟨10, .data⟩ (by simp) rfl)
  | 13, _ => exact r6_13 h hD hsz hn (hp ({ dst := none, op := Go.Op.store 37 (Go.Operand.tmp 5) (Go.Operand.tmp 33), type := 0, pos := "law.go:85", after := #[{ on := 11, ground := Go.Ground.data }, { on := 9, ground := Go.Ground.data }, { on := 12, ground := Go.Ground.chain }, { on := 0, ground := Go.Ground.phase }, { on := 1, ground := Go.Ground.phase }, { on := 2, ground := Go.Ground.phase }, { on := 3, ground := Go.Ground.phase }, { on := 4, ground := Go.Ground.phase }, { on := 5, ground := Go.Ground.phase }, { on := 6, ground := Go.Ground.phase }, { on := 7, ground := Go.Ground.phase }, { on := 8, ground := Go.Ground.phase }, { on := 9, ground := Go.Ground.phase }, { on := 10, ground := Go.Ground.phase }, { on := 11, ground := Go.Ground.phase }, { on := 12, ground := Go.Ground.phase }], guard := none }) rfl ⟨9, .data⟩ (by simp) rfl) (hp ({ dst := none, op := Go.Op.store 37 (Go.Operand.tmp 5) (Go.Operand.tmp 33), type := 0, pos := "law.go:85", after := #[{ on := 11, ground := Go.Ground.data }, { on := 9, ground := Go.Ground.data }, { on := 12, ground := Go.Ground.chain }, { on := 0, ground := Go.Ground.phase }, { on := 1, ground := Go.Ground.phase }, { on := 2, ground := Go.Ground.phase }, { on := 3, ground := Go.Ground.phase }, { on := 4, ground := Go.Ground.phase }, { on := 5, ground := Go.Ground.phase }, { on := 6, ground := Go.Ground.phase }, { on := 7, ground := Go.Ground.phase }, { on := 8, ground := Go.Ground.phase }, { on := 9, ground := Go.Ground.phase }, { on := 10, ground := Go.Ground.phase }, { on := 11, ground := Go.Ground.phase }, { on := 12, ground := Go.Ground.phase }], guard := none }) rfl ⟨11, .data⟩ (by simp) rfl)
 ·intro D a W h hD hr
  have hD : D.size = 14 := hD
  have d0 : dn D 0 = true := bS hr (o := { dst := some 24, op := Go.Op.fieldAddr 30 (Go.Operand.tmp 1) 0, type := 0, pos := "law.go:85", after := #[], guard := none }) (by decide) hD rfl (fun e he hb => by simp at he)
  have d1 : dn D 1 = true := bS hr (o := { dst := some 25, op := Go.Op.fieldAddr 27 (Go.Operand.tmp 24) 0, type := 0, pos := "law.go:85", after := #[{ on := 0, ground := Go.Ground.data }], guard := none }) (by decide) hD rfl (fun e he hb => by
   simp only [List.mem_toArray, List.mem_cons, List.not_mem_nil, or_false] at he
   rcases he with rfl <;> first | exact d0)
  have d2 : dn D 2 = true := bS hr (o := { dst := some 26, op := Go.Op.load 24 (Go.Operand.tmp 25), type := 24, pos := "law.go:85", after := #[{ on := 1, ground := Go.Ground.data }], guard := none }) (by decide) hD rfl (fun e he hb => by
   simp only [List.mem_toArray, List.mem_cons, List.not_mem_nil, or_false] at he
   rcases he with rfl <;> first | exact d0 | exact d1)
  have d3 : dn D 3 = true := bS hr (o := { dst := some 27, op := Go.Op.call { callee := Go.Callee.value (Go.Operand.func 16), args := #[Go.Operand.tmp 26], argTypes := #[24] }, type := 24, pos := "law.go:85", after := #[{ on := 2, ground := Go.Ground.data }], guard := none }) (by decide) hD rfl (fun e he hb => by
   simp only [List.mem_toArray, List.mem_cons, List.not_mem_nil, or_false] at he
   rcases he with rfl <;> first | exact d0 | exact d1 | exact d2)
  have d4 : dn D 4 = true := bS hr (o := { dst := some 28, op := Go.Op.fieldAddr 30 (Go.Operand.tmp 1) 1, type := 0, pos := "law.go:85", after := #[], guard := none }) (by decide) hD rfl (fun e he hb => by simp at he)
  have d5 : dn D 5 = true := bS hr (o := { dst := some 29, op := Go.Op.load 28 (Go.Operand.tmp 28), type := 28, pos := "law.go:85", after := #[{ on := 4, ground := Go.Ground.data }], guard := none }) (by decide) hD rfl (fun e he hb => by
   simp only [List.mem_toArray, List.mem_cons, List.not_mem_nil, or_false] at he
   rcases he with rfl <;> first | exact d0 | exact d1 | exact d2 | exact d3 | exact d4)
  have d6 : dn D 6 = true := bS hr (o := { dst := some 30, op := Go.Op.move (Go.Operand.tmp 3), type := 3, pos := "law.go:85", after := #[], guard := none }) (by decide) hD rfl (fun e he hb => by simp at he)
  have d7 : dn D 7 = true := bS hr (o := { dst := some 31, op := Go.Op.indexAddr 28 (Go.Operand.tmp 29) (Go.Operand.tmp 30), type := 0, pos := "law.go:85", after := #[{ on := 5, ground := Go.Ground.data }, { on := 6, ground := Go.Ground.data }], guard := none }) (by decide) hD rfl (fun e he hb => by
   simp only [List.mem_toArray, List.mem_cons, List.not_mem_nil, or_false] at he
   rcases he with rfl | rfl <;> first | exact d0 | exact d1 | exact d2 | exact d3 | exact d4 | exact d5 | exact d6)
  have d8 : dn D 8 = true := bS hr (o := { dst := some 32, op := Go.Op.load 37 (Go.Operand.tmp 31), type := 37, pos := "law.go:85", after := #[{ on := 7, ground := Go.Ground.data }], guard := none }) (by decide) hD rfl (fun e he hb => by
   simp only [List.mem_toArray, List.mem_cons, List.not_mem_nil, or_false] at he
   rcases he with rfl <;> first | exact d0 | exact d1 | exact d2 | exact d3 | exact d4 | exact d5 | exact d6 | exact d7)
  have d9 : dn D 9 = true := bS hr (o := { dst := some 33, op := Go.Op.call { callee := Go.Callee.value (Go.Operand.func 17), args := #[Go.Operand.tmp 32], argTypes := #[37] }, type := 37, pos := "law.go:85", after := #[{ on := 8, ground := Go.Ground.data }, { on := 3, ground := Go.Ground.chain }], guard := none }) (by decide) hD rfl (fun e he hb => by
   simp only [List.mem_toArray, List.mem_cons, List.not_mem_nil, or_false] at he
   rcases he with rfl | rfl <;> first | exact d0 | exact d1 | exact d2 | exact d3 | exact d4 | exact d5 | exact d6 | exact d7 | exact d8)
  have d10 : dn D 10 = true := bS hr (o := { dst := some 4, op := Go.Op.alloc 24, type := 0, pos := "law.go:85", after := #[], guard := none }) (by decide) hD rfl (fun e he hb => by simp at he)
  have d11 : dn D 11 = true := bS hr (o := { dst := some 5, op := Go.Op.alloc 37, type := 0, pos := "law.go:85", after := #[], guard := none }) (by decide) hD rfl (fun e he hb => by simp at he)
  have d12 : dn D 12 = true := bS hr (o := { dst := none, op := Go.Op.store 24 (Go.Operand.tmp 4) (Go.Operand.tmp 27), type := 0, pos := "law.go:85", after := #[{ on := 10, ground := Go.Ground.data }, { on := 3, ground := Go.Ground.data }, { on := 9, ground := Go.Ground.chain }, { on := 0, ground := Go.Ground.phase }, { on := 1, ground := Go.Ground.phase }, { on := 2, ground := Go.Ground.phase }, { on := 3, ground := Go.Ground.phase }, { on := 4, ground := Go.Ground.textOnly Go.Departure.lateStores }, { on := 5, ground := Go.Ground.textOnly Go.Departure.lateStores }, { on := 6, ground := Go.Ground.textOnly Go.Departure.lateStores }, { on := 7, ground := Go.Ground.textOnly Go.Departure.lateStores }, { on := 8, ground := Go.Ground.textOnly Go.Departure.lateStores }, { on := 9, ground := Go.Ground.textOnly Go.Departure.lateStoresUnsure }, { on := 10, ground := Go.Ground.phase }, { on := 11, ground := Go.Ground.phase }], guard := none }) (by decide) hD rfl (fun e he hb => by
   simp only [List.mem_toArray, List.mem_cons, List.not_mem_nil, or_false] at he
   rcases he with rfl | rfl | rfl | rfl | rfl | rfl | rfl | rfl | rfl | rfl | rfl | rfl | rfl | rfl | rfl <;> first | exact d0 | exact d1 | exact d2 | exact d3 | exact d4 | exact d5 | exact d6 | exact d7 | exact d8 | exact d9 | exact d10 | exact d11)
  have d13 : dn D 13 = true := bS hr (o := { dst := none, op := Go.Op.store 37 (Go.Operand.tmp 5) (Go.Operand.tmp 33), type := 0, pos := "law.go:85", after := #[{ on := 11, ground := Go.Ground.data }, { on := 9, ground := Go.Ground.data }, { on := 12, ground := Go.Ground.chain }, { on := 0, ground := Go.Ground.phase }, { on := 1, ground := Go.Ground.phase }, { on := 2, ground := Go.Ground.phase }, { on := 3, ground := Go.Ground.phase }, { on := 4, ground := Go.Ground.phase }, { on := 5, ground := Go.Ground.phase }, { on := 6, ground := Go.Ground.phase }, { on := 7, ground := Go.Ground.phase }, { on := 8, ground := Go.Ground.phase }, { on := 9, ground := Go.Ground.phase }, { on := 10, ground := Go.Ground.phase }, { on := 11, ground := Go.Ground.phase }, { on := 12, ground := Go.Ground.phase }], guard := none }) (by decide) hD rfl (fun e he hb => by
   simp only [List.mem_toArray, List.mem_cons, List.not_mem_nil, or_false] at he
   rcases he with rfl | rfl | rfl | rfl | rfl | rfl | rfl | rfl | rfl | rfl | rfl | rfl | rfl | rfl | rfl | rfl <;> first | exact d0 | exact d1 | exact d2 | exact d3 | exact d4 | exact d5 | exact d6 | exact d7 | exact d8 | exact d9 | exact d10 | exact d11 | exact d12)
  obtain ⟨-, -, bc, q, qc, g4, g27, g1⟩ := h.s12 d12
  obtain ⟨-, -, bj, r, rc, g5, g33, g2⟩ := h.s13 d13
  obtain ⟨v3, hv3, q', qc', rfl, ho3⟩ := h.all 3 (by omega) d3
  obtain ⟨v9, hv9, r', rc', rfl, ho9⟩ := h.all 9 (by omega) d9
  have hv3 : a.tmps[27]? = some (cL c (.slice q' c.splits.length qc')) := hv3
  have hv9 : a.tmps[33]? = some (cJ j (.slice r' l.length rc')) := hv9
  rw [g27] at hv3
  rw [g33] at hv9
  simp only [cL, cJ, Option.some.injEq, Value.agg.injEq, Array.mk.injEq, List.cons.injEq, Value.slice.injEq, and_true, true_and] at hv3 hv9
  obtain ⟨rfl, rfl⟩ := hv3
  obtain ⟨rfl, rfl⟩ := hv9
  have e0 : a.tmps[24]? = some (.pointer (some ⟨B, 0, none⟩)) := by obtain ⟨v, hv, hf⟩ := h.all 0 (by omega) d0; rw [show v = _ from hf] at hv; exact hv
  have e1 : a.tmps[25]? = some (.pointer (some ⟨B, 0, none⟩)) := by obtain ⟨v, hv, hf⟩ := h.all 1 (by omega) d1; rw [show v = _ from hf] at hv; exact hv
  have e2 : a.tmps[26]? = some (cL c vp) := by obtain ⟨v, hv, hf⟩ := h.all 2 (by omega) d2; rw [show v = _ from hf] at hv; exact hv
  have e4 : a.tmps[28]? = some (.pointer (some ⟨B, 5, none⟩)) := by obtain ⟨v, hv, hf⟩ := h.all 4 (by omega) d4; rw [show v = _ from hf] at hv; exact hv
  have e5 : a.tmps[29]? = some (.slice (some ⟨b, off, none⟩) n jc) := by obtain ⟨v, hv, hf⟩ := h.all 5 (by omega) d5; rw [show v = _ from hf] at hv; exact hv
  have e6 : a.tmps[30]? = some (.int .i64 k) := by obtain ⟨v, hv, hf⟩ := h.all 6 (by omega) d6; rw [show v = _ from hf] at hv; exact hv
  have e7 : a.tmps[31]? = some (.pointer (some ⟨b, off + k * 7, none⟩)) := by obtain ⟨v, hv, hf⟩ := h.all 7 (by omega) d7; rw [show v = _ from hf] at hv; exact hv
  have e8 : a.tmps[32]? = some (cJ j u) := by obtain ⟨v, hv, hf⟩ := h.all 8 (by omega) d8; rw [show v = _ from hf] at hv; exact hv
  have hsz' : 34 ≤ a.tmps.size := by have := h.sz; omega
  have hot := h.ot
  have hde := h.de
  have hE := hend W bc bj q qc r rc h.bel g1 g2 ho3 ho9
  have he : a = ⟨((((((((((((a0.tmps.setIfInBounds 24 (.pointer (some ⟨B, 0, none⟩))).setIfInBounds 25 (.pointer (some ⟨B, 0, none⟩))).setIfInBounds 26 (cL c vp)).setIfInBounds 27 (cL c (.slice q c.splits.length qc))).setIfInBounds 28 (.pointer (some ⟨B, 5, none⟩))).setIfInBounds 29 (.slice (some ⟨b, off, none⟩) n jc)).setIfInBounds 30 (.int .i64 k)).setIfInBounds 31 (.pointer (some ⟨b, off + k * 7, none⟩))).setIfInBounds 32 (cJ j u)).setIfInBounds 33 (cJ j (.slice r l.length rc))).setIfInBounds 4 (.pointer (some ⟨bc, 0, none⟩))).setIfInBounds 5 (.pointer (some ⟨bj, 0, none⟩))), a0.defers⟩ := by
   obtain ⟨at', ad⟩ := a
   simp only at *
   subst hde
   refine congrArg (Act.mk · _) (Array.ext_getElem? fun m => ?_)
   by_cases m0 : m = 24
   ·subst m0; rw [e0]; simp [Array.getElem?_setIfInBounds]; omega
   by_cases m1 : m = 25
   ·subst m1; rw [e1]; simp [Array.getElem?_setIfInBounds]; omega
   by_cases m2 : m = 26
   ·subst m2; rw [e2]; simp [Array.getElem?_setIfInBounds]; omega
   by_cases m3 : m = 27
   ·subst m3; rw [g27]; simp [Array.getElem?_setIfInBounds]; omega
   by_cases m4 : m = 28
   ·subst m4; rw [e4]; simp [Array.getElem?_setIfInBounds]; omega
   by_cases m5 : m = 29
   ·subst m5; rw [e5]; simp [Array.getElem?_setIfInBounds]; omega
   by_cases m6 : m = 30
   ·subst m6; rw [e6]; simp [Array.getElem?_setIfInBounds]; omega
   by_cases m7 : m = 31
   ·subst m7; rw [e7]; simp [Array.getElem?_setIfInBounds]; omega
   by_cases m8 : m = 32
   ·subst m8; rw [e8]; simp [Array.getElem?_setIfInBounds]; omega
   by_cases m9 : m = 33
   ·subst m9; rw [g33]; simp [Array.getElem?_setIfInBounds]; omega
   by_cases m10 : m = 4
   ·subst m10; rw [g4]; simp [Array.getElem?_setIfInBounds]; omega
   by_cases m11 : m = 5
   ·subst m11; rw [g5]; simp [Array.getElem?_setIfInBounds]; omega
   rw [hot m (fun i hi => by
    match i, hi with
    | 0, _ => exact m0
    | 1, _ => exact m1
    | 2, _ => exact m2
    | 3, _ => exact m3
    | 4, _ => exact m4
    | 5, _ => exact m5
    | 6, _ => exact m6
    | 7, _ => exact m7
    | 8, _ => exact m8
    | 9, _ => exact m9
    | 10, _ => exact m10
    | 11, _ => exact m11)]
   simp only [Array.getElem?_setIfInBounds]
   repeat rw [if_neg (by omega)]
  rw [he]
  exact hE
 ·refine ⟨rfl, rfl, fun _ _ => rfl, (Below.refl _ _).drew, fun i hi hd => ?_, fun hd => ?_, fun hd => ?_⟩
  ·exfalso
   match i, hi with
   | 0, _ | 1, _ | 2, _ | 3, _ | 4, _ | 5, _ | 6, _ | 7, _ | 8, _ | 9, _ | 10, _ | 11, _ => exact absurd hd (by decide)
  ·exact absurd hd (by decide)
  ·exact absurd hd (by decide)
end
def Er (e : Int) : Prop := 0 ≤ e ∧ e ≤ 14
theorem plJ_err : ∀ (fu d : Nat) (ws : List (List UInt8)) (m : Nat) (e : Int), pl fu d ws m = some (.err e) → 1 ≤ e ∧ e ≤ 14 := by
 intro fu
 induction fu with
 | zero => intro d ws m e h; simp [pl] at h
 | succ fu ih =>
  intro d ws m e h
  have hmap : ∀ (g : Fo) (d : Nat) (ws : List (List UInt8)) (m : Nat), (pl fu d ws m).map (Rs.pre g) = some (.err e) → 1 ≤ e ∧ e ≤ 14 := by
   intro g d ws m h
   cases hp : pl fu d ws m with
   | none => rw [hp] at h; cases h
   | some r =>
    rw [hp] at h
    cases r with
    | err e' =>
     simp only [Option.map_some, Rs.pre, Option.some.injEq, Rs.err.injEq] at h
     subst h
     exact ih _ _ _ _ hp
    | ok f ws m => simp [Rs.pre] at h
  cases ws with
  | nil =>
   rw [pl] at h
   split at h
   ·simp at h; omega
   ·simp at h
  | cons w ws =>
   rw [pl] at h
   split at h
   ·simp at h
   ·split at h
    ·simp at h; omega
    ·split at h
     ·simp at h; omega
     ·split at h
      ·split at h
       ·simp at h; omega
       ·split at h
        ·simp at h; omega
        ·split at h
         ·simp at h; omega
         ·split at h
          ·cases h
          ·next hp =>
           simp at h
           subst h
           exact ih _ _ _ _ hp
          ·exact hmap _ _ _ _ h
      ·exact hmap _ _ _ _ h
theorem progJ_err {s : ByteArray} {e : Int} (h : cG s (.err e)) : 1 ≤ e ∧ e ≤ 14 := by
 unfold cG at h
 split at h
 ·injection h with h; omega
 ·obtain ⟨fu, h⟩ := h
  exact plJ_err _ _ _ _ _ h
theorem gY {s : ByteArray} {e : Int} (h : dw s = .err e) : 1 ≤ e ∧ e ≤ 14 := by
 by_cases hp : ∃ r, cG s r
 ·obtain ⟨r, hr⟩ := hp
  rw [eD hr] at h
  rw [h] at hr
  exact progJ_err hr
 ·unfold dw at h
  rw [dif_neg hp] at h
  injection h with h
  omega
theorem cE_er (f : Fo) : Er (cE f) := by
 unfold cE Er
 rcases gO f with h | h | h <;> split <;> omega
def ReE : Re → Prop
 | .err c => 1 ≤ c ∧ c ≤ 14
 | .ok _ => True
theorem rep_er {g : St → Re} (hg : ∀ s, ReE (g s)) : ∀ (i : Nat) (s : St), ReE (iA g i s)
 | 0, s => trivial
 | i + 1, s => by
  rw [iA]
  have := hg s
  split
  ·next c h => rw [h] at this; exact this
  ·exact rep_er hg i _
theorem stp_er {x : Rc} {k n : Int} {g : St → Re} (hg : ∀ s, ReE (g s)) (s : St) : ReE (iX x k n g s) := by
 unfold iX
 repeat' split
 all_goals first | trivial | exact rep_er hg _ _ | (show (1 : Int) ≤ 2 ∧ (2 : Int) ≤ 14; omega)
theorem ev_er (x : Rc) : ∀ (f : Fo) (s : St), ReE (ev x f s) := by
 intro f
 induction f with
 | nil => intro s; rw [ev]; trivial
 | cons k n b r ihb ihr =>
  intro s
  rw [ev]
  split
  ·show (1 : Int) ≤ 10 ∧ (10 : Int) ≤ 14; omega
  ·have := stp_er (x := x) (k := k) (n := n) (g := fun s => ev x b s) ihb ⟨s.fu - 1, s.st, s.out⟩
   split
   ·next c h => rw [h] at this; exact this
   ·exact ihr _
theorem runR_er (f : Fo) (x : Rc) (fu : Int) : Er (df f x fu).1 := by
 unfold df
 split
 ·exact cE_er f
 ·split
  ·exact ⟨by simp, by simp⟩
  ·have := ev_er x f ⟨fu.toNat, [], []⟩
   split
   ·next c h => rw [h] at this; exact ⟨by show (0 : Int) ≤ c; have := this.1; omega, this.2⟩
   ·exact ⟨by simp, by simp⟩
theorem mapL_er (f : Fo) (fu : Int) : ∀ (l acc : List Rc), Er (iB f fu l acc).2
 | [], acc => ⟨by simp [iB], by simp [iB]⟩
 | x :: l, acc => by
  rw [iB]
  split
  ·exact runR_er f x fu
  ·split
   ·exact ⟨by simp, by simp⟩
   ·exact mapL_er f fu l _
theorem mapRes_er (j : Jb) (l : List Rc) : Er (ap j l).2 := by
 unfold ap
 cases h : dw j.prog with
 | err c => have := gY h; exact ⟨by show (0 : Int) ≤ c; omega, this.2⟩
 | ok f ws m =>
  unfold jT
  simp only
  split
  ·exact cE_er f
  ·split
   ·exact mapL_er f _ _ _
   ·exact ⟨by simp, by simp⟩
theorem fold_er (agg : Int) (bd : Nat) (l : List Rc) : Er (aB agg bd l).2 := by
 rcases gat_err agg bd (eo agg l) with h | h
 ·rw [show (aB agg bd l).2 = 0 from h]; exact ⟨by simp, by simp⟩
 ·rw [show (aB agg bd l).2 = 11 from h]; exact ⟨by simp, by simp⟩
theorem nB (j : Jb) (l : List Rc) : Er (aI j l).2 := by
 unfold aI mK
 split
 ·exact mapRes_er j l
 ·split
  ·exact fold_er _ _ _
  ·split
   ·exact ⟨by simp, by simp⟩
   ·exact ⟨by simp, by simp⟩
theorem recsL_er (S : List cM) (l : List Int) : Er (aR S l).2 := by
 rcases oN S l with h | h <;> rw [h] <;> exact ⟨by simp, by simp⟩
theorem validRes_er (c : aX) (j : Jb) (l : List Int) : Er (al c j l) := by
 unfold al
 split
 ·exact ⟨by simp, by simp⟩
 ·cases h : dw j.prog with
  | err e => have := gY h; exact ⟨by show (0 : Int) ≤ e; omega, this.2⟩
  | ok f ws m =>
   simp only
   split
   ·exact cE_er f
   ·exact recsL_er _ _
theorem togRes_er (c : aX) (j : Jb) (l : List Int) : Er (bf c j l).2 := by
 unfold bf togP
 split
 ·rcases mW c j l [] with ⟨h1, h2, h3⟩ | ⟨h1, h2, k, hk, h3⟩
  ·rw [h1]; exact ⟨by simp, by simp⟩
  ·rw [← h3]; exact mapRes_er j _
 ·split
  ·exact fold_er _ _ _
  ·rcases mX j.agg j.parts (aB j.agg j.bound.toNat (eX c j l []).1).1 with h | h
   ·rw [h]; exact ⟨by simp, by simp⟩
   ·rw [h]; exact ⟨by simp, by simp⟩
theorem codes_rise (c : aX) (j : Jb) (l : List Int) : cr 1 64 (dh c j l) = true := by
 have one : ∀ e : Int, Er e → e ≠ 0 → cr 1 64 [e] = true := fun e h h0 => by
  have := h.1
  have := h.2
  unfold cr
  simp
  omega
 unfold dh
 split
 ·next h => exact one _ (validRes_er c j l) h
 ·unfold ey
  split
  ·have hr : bl (cX c j l) := hU _
   unfold cr
   rw [decide_eq_true hr, Bool.and_true, List.all_eq_true]
   intro e he
   obtain ⟨h0, i, hi, rfl⟩ := kT.1 he
   have := nB j (dH c i)
   have := this.1
   have := (nB j (dH c i)).2
   exact decide_eq_true (by omega)
  ·split
   ·next h => exact one _ (togRes_er c j l) h
   ·rfl
theorem jobB_page (j : Jb) (l : List Int) : fL j l = (decide (1 ≤ j.id ∧ j.id ≤ 1048576) && (decide (j.prog.size ≤ 512) && (aJ j.agg j.bound && (decide (0 ≤ j.fuel ∧ j.fuel ≤ 2000) && (decide (1 ≤ l.length ∧ l.length ≤ 6) && (cr 1 1048576 l && dL j.parts)))))) := rfl
theorem rjob_any (j : Jb) (v : Value) (l : List Int) (w : World) (hn : NS w v l) (hl : l.length ≤ 100000) : Calls Tryz.prog 8 #[cJ j v] w fun e w' => e = .returned (.bool (fL j l)) ∧ Below w.heap.size w w' := by
 obtain ⟨a, c, rfl⟩ : ∃ a c, v = .slice a l.length c := by
  obtain ⟨a, c, e, -⟩ := hn
  exact ⟨a, c, e⟩
 have hb0 := dN w (.cells #[.int .i64 j.id, .string j.prog, .int .i64 j.agg, .int .i64 j.bound, .int .i64 j.fuel, .slice a l.length c, .int .i64 j.parts] 37)
 have hB := fp.new w j (.slice a l.length c)
 obtain ⟨W0, hW0⟩ : ∃ W0 : World, W0 = w.alloc (.cells #[.int .i64 j.id, .string j.prog, .int .i64 j.agg, .int .i64 j.bound, .int .i64 j.fuel, .slice a l.length c, .int .i64 j.parts] 37) := ⟨_, rfl⟩
 rw [← hW0] at hb0 hB
 obtain ⟨a0, a1, a2, a3, a4, a5, a6⟩ := hB.cells
 have H1 := ae (gR j.id W0)
 have H2 := ae (way_any j.agg j.bound W0)
 have H3 := ae (mS j.fuel 2000 W0)
 have H4 := ae (lB 1 1048576 (.slice a l.length c) l W0 (hn.below hb0) (by omega))
 have H5 := ae (fun W => mayParts_any j.parts W)
 have HBK := ae hB
 have HW := ae hW0.symm
 have HB := ae hb0
 have A6 := ae (fun W1 (hb : Below W0.heap.size W0 W1) => (HBK.out.below hb).cells.2.2.2.2.2.2)
 clear hW0 hb0 hB hn
 rw [jobB_page]
 generalize decide (1 ≤ j.id ∧ j.id ≤ 1048576) = b1 at H1
 generalize aJ j.agg j.bound = b2 at H2
 generalize decide (0 ≤ j.fuel ∧ j.fuel ≤ 2000) = b3 at H3
 generalize cr 1 1048576 l = b4 at H4
 generalize dL j.parts = b5 at H5
 cases b1 with
 | false =>
  go_enter Tryz.func8, Tryz.ntmps8
  go_wp2_with (first
   | (go_at_call 36; rw [HW.out]; refine H1.out.mono ?_; rintro e W1 ⟨rfl, hw1⟩; subst W1)
   | (go_at_call 37; refine H2.out.mono ?_; rintro e W1 ⟨rfl, hw1⟩; subst W1)
   | (go_at_call 38; refine H3.out.mono ?_; rintro e W1 ⟨rfl, hw1⟩; subst W1)
   | (go_at_call 28; refine H4.out.mono ?_; rintro e W1 ⟨rfl, hd1⟩; have hb1 := hd1.below W0.heap.size; have a6' := A6.out W1 hb1)
   | (go_at_call 39; refine (H5.out _).mono ?_; rintro e W2 ⟨rfl, hw2⟩; subst W2))
  go_ret
  exact ⟨rfl, HB.out⟩
 | true =>
  by_cases hc1 : j.prog.size ≤ 512
  ·have dp : decide ((j.prog.size : Int) ≤ 512) = true := decide_eq_true (by omega)
   rw [decide_eq_true hc1]
   cases b2 with
   | false =>
    go_enter Tryz.func8, Tryz.ntmps8
    go_wp2_with (first
     | (go_at_call 36; rw [HW.out]; refine H1.out.mono ?_; rintro e W1 ⟨rfl, hw1⟩; subst W1)
     | (go_at_call 37; refine H2.out.mono ?_; rintro e W1 ⟨rfl, hw1⟩; subst W1)
     | (go_at_call 38; refine H3.out.mono ?_; rintro e W1 ⟨rfl, hw1⟩; subst W1)
     | (go_at_call 28; refine H4.out.mono ?_; rintro e W1 ⟨rfl, hd1⟩; have hb1 := hd1.below W0.heap.size; have a6' := A6.out W1 hb1)
     | (go_at_call 39; refine (H5.out _).mono ?_; rintro e W2 ⟨rfl, hw2⟩; subst W2))
    go_ret
    exact ⟨rfl, HB.out⟩
   | true =>
    cases b3 with
    | false =>
     go_enter Tryz.func8, Tryz.ntmps8
     go_wp2_with (first
      | (go_at_call 36; rw [HW.out]; refine H1.out.mono ?_; rintro e W1 ⟨rfl, hw1⟩; subst W1)
      | (go_at_call 37; refine H2.out.mono ?_; rintro e W1 ⟨rfl, hw1⟩; subst W1)
      | (go_at_call 38; refine H3.out.mono ?_; rintro e W1 ⟨rfl, hw1⟩; subst W1)
      | (go_at_call 28; refine H4.out.mono ?_; rintro e W1 ⟨rfl, hd1⟩; have hb1 := hd1.below W0.heap.size; have a6' := A6.out W1 hb1)
      | (go_at_call 39; refine (H5.out _).mono ?_; rintro e W2 ⟨rfl, hw2⟩; subst W2))
     go_ret
     exact ⟨rfl, HB.out⟩
    | true =>
     by_cases hc4 : 1 ≤ l.length
     ·have dl : decide ((1 : Int) ≤ (l.length : Int)) = true := decide_eq_true (by omega)
      by_cases hc5 : l.length ≤ 6
      ·have dm : decide ((l.length : Int) ≤ 6) = true := decide_eq_true (by omega)
       rw [decide_eq_true (show 1 ≤ l.length ∧ l.length ≤ 6 from ⟨hc4, hc5⟩)]
       cases b4 with
       | false =>
        go_enter Tryz.func8, Tryz.ntmps8
        go_wp2_with (first
         | (go_at_call 36; rw [HW.out]; refine H1.out.mono ?_; rintro e W1 ⟨rfl, hw1⟩; subst W1)
         | (go_at_call 37; refine H2.out.mono ?_; rintro e W1 ⟨rfl, hw1⟩; subst W1)
         | (go_at_call 38; refine H3.out.mono ?_; rintro e W1 ⟨rfl, hw1⟩; subst W1)
         | (go_at_call 28; refine H4.out.mono ?_; rintro e W1 ⟨rfl, hd1⟩; have hb1 := hd1.below W0.heap.size; have a6' := A6.out W1 hb1)
         | (go_at_call 39; refine (H5.out _).mono ?_; rintro e W2 ⟨rfl, hw2⟩; subst W2))
        go_ret
        exact ⟨rfl, ag HB.out hb1⟩
       | true =>
        cases b5 with
        | false =>
         go_enter Tryz.func8, Tryz.ntmps8
         go_wp2_with (first
          | (go_at_call 36; rw [HW.out]; refine H1.out.mono ?_; rintro e W1 ⟨rfl, hw1⟩; subst W1)
          | (go_at_call 37; refine H2.out.mono ?_; rintro e W1 ⟨rfl, hw1⟩; subst W1)
          | (go_at_call 38; refine H3.out.mono ?_; rintro e W1 ⟨rfl, hw1⟩; subst W1)
          | (go_at_call 28; refine H4.out.mono ?_; rintro e W1 ⟨rfl, hd1⟩; have hb1 := hd1.below W0.heap.size; have a6' := A6.out W1 hb1)
          | (go_at_call 39; refine (H5.out _).mono ?_; rintro e W2 ⟨rfl, hw2⟩; subst W2))
         go_ret
         exact ⟨rfl, ag HB.out hb1⟩
        | true =>
         go_enter Tryz.func8, Tryz.ntmps8
         go_wp2_with (first
          | (go_at_call 36; rw [HW.out]; refine H1.out.mono ?_; rintro e W1 ⟨rfl, hw1⟩; subst W1)
          | (go_at_call 37; refine H2.out.mono ?_; rintro e W1 ⟨rfl, hw1⟩; subst W1)
          | (go_at_call 38; refine H3.out.mono ?_; rintro e W1 ⟨rfl, hw1⟩; subst W1)
          | (go_at_call 28; refine H4.out.mono ?_; rintro e W1 ⟨rfl, hd1⟩; have hb1 := hd1.below W0.heap.size; have a6' := A6.out W1 hb1)
          | (go_at_call 39; refine (H5.out _).mono ?_; rintro e W2 ⟨rfl, hw2⟩; subst W2))
         go_ret
         exact ⟨rfl, ag HB.out hb1⟩
      ·have dm : decide ((l.length : Int) ≤ 6) = false := decide_eq_false (by omega)
       rw [decide_eq_false (show ¬ (1 ≤ l.length ∧ l.length ≤ 6) by omega)]
       go_enter Tryz.func8, Tryz.ntmps8
       go_wp2_with (first
        | (go_at_call 36; rw [HW.out]; refine H1.out.mono ?_; rintro e W1 ⟨rfl, hw1⟩; subst W1)
        | (go_at_call 37; refine H2.out.mono ?_; rintro e W1 ⟨rfl, hw1⟩; subst W1)
        | (go_at_call 38; refine H3.out.mono ?_; rintro e W1 ⟨rfl, hw1⟩; subst W1)
        | (go_at_call 28; refine H4.out.mono ?_; rintro e W1 ⟨rfl, hd1⟩; have hb1 := hd1.below W0.heap.size; have a6' := A6.out W1 hb1)
        | (go_at_call 39; refine (H5.out _).mono ?_; rintro e W2 ⟨rfl, hw2⟩; subst W2))
       go_ret
       exact ⟨rfl, HB.out⟩
     ·have dl : decide ((1 : Int) ≤ (l.length : Int)) = false := decide_eq_false (by omega)
      rw [decide_eq_false (show ¬ (1 ≤ l.length ∧ l.length ≤ 6) by omega)]
      go_enter Tryz.func8, Tryz.ntmps8
      go_wp2_with (first
       | (go_at_call 36; rw [HW.out]; refine H1.out.mono ?_; rintro e W1 ⟨rfl, hw1⟩; subst W1)
       | (go_at_call 37; refine H2.out.mono ?_; rintro e W1 ⟨rfl, hw1⟩; subst W1)
       | (go_at_call 38; refine H3.out.mono ?_; rintro e W1 ⟨rfl, hw1⟩; subst W1)
       | (go_at_call 28; refine H4.out.mono ?_; rintro e W1 ⟨rfl, hd1⟩; have hb1 := hd1.below W0.heap.size; have a6' := A6.out W1 hb1)
       | (go_at_call 39; refine (H5.out _).mono ?_; rintro e W2 ⟨rfl, hw2⟩; subst W2))
      go_ret
      exact ⟨rfl, HB.out⟩
  ·have dp : decide ((j.prog.size : Int) ≤ 512) = false := decide_eq_false (by omega)
   rw [decide_eq_false hc1]
   go_enter Tryz.func8, Tryz.ntmps8
   go_wp2_with (first
    | (go_at_call 36; rw [HW.out]; refine H1.out.mono ?_; rintro e W1 ⟨rfl, hw1⟩; subst W1)
    | (go_at_call 37; refine H2.out.mono ?_; rintro e W1 ⟨rfl, hw1⟩; subst W1)
    | (go_at_call 38; refine H3.out.mono ?_; rintro e W1 ⟨rfl, hw1⟩; subst W1)
    | (go_at_call 28; refine H4.out.mono ?_; rintro e W1 ⟨rfl, hd1⟩; have hb1 := hd1.below W0.heap.size; have a6' := A6.out W1 hb1)
    | (go_at_call 39; refine (H5.out _).mono ?_; rintro e W2 ⟨rfl, hw2⟩; subst W2))
   go_ret
   exact ⟨rfl, HB.out⟩
theorem placeC_no {S : List cM} {i : Int} (h : bX S i = none) : gm S i = -1 := by unfold gm; rw [h]
theorem kX {S : List cM} {i : Int} {k : Nat} (h : bX S i = some k) : gm S i = (k : Int) := by unfold gm; rw [h]
theorem jk (c : aX) (v : Value) (j : Jb) (u : Value) (l : List Int) (w : World) (hc : nG w c v) (hj : InJ w j u l) (hpos : 0 < w.heap.size) : Calls Tryz.prog 22 #[cL c v, cJ j u] w fun e w' => e = .returned (.int .i64 (al c j l)) ∧ Below w.heap.size w w' := by
 obtain ⟨va, vc, rfl, -⟩ := hc.ps
 obtain ⟨ua, uc, rfl⟩ := hj.slice
 obtain ⟨W0, hW0⟩ : ∃ W0 : World, W0 = (w.alloc (gq c (.slice va c.splits.length vc))).alloc (fQ j (.slice ua l.length uc)) := ⟨_, rfl⟩
 have hb0 : Below w.heap.size w W0 := by rw [hW0]; exact ag (dN w _) (dN _ _)
 have HCJ := ae (show ∀ W, Below W0.heap.size W0 W → CJ w W c (.slice va c.splits.length vc) j (.slice ua l.length uc) from fun W hW => CJ.start w c _ j _ W (by rw [← hW0]; exact hW))
 have HNS := ae (show ∀ W, Below W0.heap.size W0 W → NS W (.slice ua l.length uc) l from fun W hW => (hj.ns.below hb0).below hW)
 have HCC := ae (fun (W : World) (hW : Below W0.heap.size W0 W) => rconfig_any c _ W ((hc.below hb0).below hW))
 have HJC := ae (fun (W : World) (hW : Below W0.heap.size W0 W) => rjob_any j (.slice ua l.length uc) l W ((hj.ns.below hb0).below hW) hj.len)
 have HPA := ae (fun (W : World) (hW : Below W0.heap.size W0 W) => mQ j.prog W (by have := hj.prog; omega) (by have := hb0.size; have := hW.size; omega))
 have HFI := ae (fun (i : Int) (W : World) (hW : Below W0.heap.size W0 W) => kO c (.slice va c.splits.length vc) i W ((hc.below hb0).below hW))
 have HW := ae hW0.symm
 have HB := ae hb0
 have HRF := ae (Below.refl W0.heap.size W0)
 clear hW0 hb0 hc hj hpos
 obtain ⟨q0, q1, q2, q3, j0, j1, j2, j3, j4, j5, j6⟩ := HCJ.out W0 HRF.out
 cases hcb : cU c with
 | false =>
  have HV := ae (di (c := c) (j := j) (l := l) (by rw [hcb]; rfl))
  rw [hcb] at HCC
  go_enter Tryz.func22, Tryz.ntmps22
  go_wp2_with fail
  rw [HW.out]
  refine (HCC.out W0 HRF.out).mono ?_
  rintro e W1 ⟨rfl, hb1⟩
  go_wp2
  go_ret
  exact ⟨by rw [HV.out]; rfl, ag HB.out hb1⟩
 | true =>
  rw [hcb] at HCC
  cases hjb : fL j l with
  | false =>
   have HV := ae (di (c := c) (j := j) (l := l) (by rw [hcb, hjb]; rfl))
   rw [hjb] at HJC
   go_enter Tryz.func22, Tryz.ntmps22
   go_wp2_with fail
   rw [HW.out]
   refine (HCC.out W0 HRF.out).mono ?_
   rintro e W1 ⟨rfl, hb1⟩
   obtain ⟨q0, q1, q2, q3, j0, j1, j2, j3, j4, j5, j6⟩ := HCJ.out W1 hb1
   go_wp2_with fail
   refine (HJC.out W1 hb1).mono ?_
   rintro e W2 ⟨rfl, hb2⟩
   go_wp2
   go_ret
   exact ⟨by rw [HV.out]; rfl, ag (ag HB.out hb1) hb2⟩
  | true =>
   have hm : (cU c && fL j l) = true := by rw [hcb, hjb]; rfl
   have HM := ae hm
   have hl6 := (fk hjb).len.2
   rw [hjb] at HJC
   clear hm hcb hjb
   go_enter Tryz.func22, Tryz.ntmps22
   go_wp2_with fail
   rw [HW.out]
   refine (HCC.out W0 HRF.out).mono ?_
   rintro e W1 ⟨rfl, hb1⟩
   obtain ⟨q0, q1, q2, q3, j0, j1, j2, j3, j4, j5, j6⟩ := HCJ.out W1 hb1
   have HB1 := ae hb1
   clear hb1
   go_wp2_with fail
   refine (HJC.out W1 HB1.out).mono ?_
   rintro e W2 ⟨rfl, hb2⟩
   have HB2 := ae (ag HB1.out hb2)
   obtain ⟨q0, q1, q2, q3, j0, j1, j2, j3, j4, j5, j6⟩ := HCJ.out W2 HB2.out
   clear hb2
   go_wp2_with fail
   refine (HPA.out W2 HB2.out).mono ?_
   rintro e W3 ⟨r, hr, hb3, hres⟩
   have HB3 := ae (ag HB2.out hb3)
   have HRr := ae hr
   cases r with
   | err x =>
    obtain ⟨rfl, hx0⟩ := hres
    have hbe : (x != 0) = true := by simpa using hx0
    have hbe2 : (x == 0) = false := by simpa using hx0
    have HV := ae (gt HM.out HRr.out)
    clear hx0 hr hb3
    go_wp2
    go_ret
    exact ⟨by rw [HV.out]; rfl, ag HB.out HB3.out⟩
   | ok f ws m =>
    obtain ⟨v1, rfl, hown⟩ := hres
    obtain ⟨hMay, hWN, hln, hWB⟩ := ir hr
    have hfs : FS QA W3 v1 f := hown.fs.arg
    obtain ⟨a1, c1, rfl⟩ := hfs.val
    have HCK := ae (ly f _ W3 hfs hln hWB)
    clear hr hb3 hfs hown hMay hWN hln hWB
    by_cases hce : cE f = 0
    ·have HV := ae (fq HM.out HRr.out hce)
     rw [hce] at HCK
     clear hce
     go_wp2_with fail
     refine HCK.out.mono ?_
     rintro e W4 ⟨rfl, hb4⟩
     have HB4 := ae (ag HB3.out hb4)
     clear hb4
     go_wp2
     clear q0 q1 q2 q3 j0 j1 j2 j3 j4 j5 j6
     go_loopw [7] (fun i wr => ∃ k : Nat, k ≤ l.length ∧ i = .int .i64 k ∧ Hid ((aR c.splits (l.take k)).2 = 0) ∧ Below W0.heap.size W0 wr) (fun i _ => l.length - (intOf i).toNat)
     case atStart => exact ⟨0, by omega, rfl, rfl, HB4.out⟩
     case round =>
      rename World => w0
      obtain ⟨k, hk, rfl, HO, hbel⟩ := hrel
      have HBEL := ae hbel
      have HS := ae (show ∀ W, Below w0.heap.size w0 W → W.cell? ⟨w.heap.size, 0, none⟩ = some (.int .i64 c.sites) ∧ W.cell? ⟨w.heap.size, 1, none⟩ = some (.slice va c.splits.length vc) ∧ W.cell? ⟨w.heap.size, 2, none⟩ = some (.int .i64 c.again) ∧ W.cell? ⟨w.heap.size, 3, none⟩ = some (.int .i64 c.over) ∧ W.cell? ⟨w.heap.size + 1, 5, none⟩ = some (.slice ua l.length uc) ∧ Below w0.heap.size w0 W from fun W hW => by
       have h := HCJ.out W (ag HBEL.out hW)
       exact ⟨h.q0, h.q1, h.q2, h.q3, h.j5, hW⟩)
      have HKEEP := ae (fun (W W' : World) (hn : W.cell? ⟨w.heap.size, 0, none⟩ = some (.int .i64 c.sites) ∧ W.cell? ⟨w.heap.size, 1, none⟩ = some (.slice va c.splits.length vc) ∧ W.cell? ⟨w.heap.size, 2, none⟩ = some (.int .i64 c.again) ∧ W.cell? ⟨w.heap.size, 3, none⟩ = some (.int .i64 c.over) ∧ W.cell? ⟨w.heap.size + 1, 5, none⟩ = some (.slice ua l.length uc) ∧ Below w0.heap.size w0 W) (hb : Below W.heap.size W W') => HS.out W' (ag hn.2.2.2.2.2 hb))
      obtain ⟨q0, q1, q2, q3, j5, -⟩ := HS.out w0 (Below.refl _ _)
      by_cases hlt : k < l.length
      ·obtain ⟨i, hi⟩ := ak hlt
       obtain ⟨a', c', e', hsh⟩ := HNS.out w0 hbel
       obtain rfl : a' = ua := by injection e' with e1; exact e1.symm
       rcases hsh with hnil | ⟨b, off, rfl, hb, hat⟩
       ·rw [hnil] at hlt; simp at hlt
       have HAT := ae (show ∀ W, Below w0.heap.size w0 W → W.cell? ⟨b, off + k, none⟩ = some (.int .i64 i) from fun W hW => (hat.below hW hb) k i hi)
       have HSU := ae (show ∀ W, Below w0.heap.size w0 W → W.cell? ⟨w.heap.size, 0, none⟩ = some (.int .i64 c.sites) ∧ W.cell? ⟨w.heap.size, 1, none⟩ = some (.slice va c.splits.length vc) ∧ W.cell? ⟨w.heap.size, 2, none⟩ = some (.int .i64 c.again) ∧ W.cell? ⟨w.heap.size, 3, none⟩ = some (.int .i64 c.over) ∧ W.cell? ⟨w.heap.size + 1, 5, none⟩ = some (.slice (some ⟨b, off, none⟩) l.length uc) ∧ W.cell? ⟨b, off + k, none⟩ = some (.int .i64 i) ∧ Below w0.heap.size w0 W from fun W hW => by
        obtain ⟨h0, h1, h2, h3, h5, h6⟩ := HS.out W hW
        exact ⟨h0, h1, h2, h3, h5, HAT.out W hW, h6⟩)
       have HKU := ae (fun (W W' : World) (hn : W.cell? ⟨w.heap.size, 0, none⟩ = some (.int .i64 c.sites) ∧ W.cell? ⟨w.heap.size, 1, none⟩ = some (.slice va c.splits.length vc) ∧ W.cell? ⟨w.heap.size, 2, none⟩ = some (.int .i64 c.again) ∧ W.cell? ⟨w.heap.size, 3, none⟩ = some (.int .i64 c.over) ∧ W.cell? ⟨w.heap.size + 1, 5, none⟩ = some (.slice (some ⟨b, off, none⟩) l.length uc) ∧ W.cell? ⟨b, off + k, none⟩ = some (.int .i64 i) ∧ Below w0.heap.size w0 W) (hb : Below W.heap.size W W') => HSU.out W' (ag hn.2.2.2.2.2.2 hb))
       have c0 := HAT.out w0 (Below.refl _ _)
       have c0d := HAT.out w0.drew (Below.refl _ _).drew
       have hki : (k : Int) < (l.length : Int) := by omega
       have hk0 : (0 : Int) ≤ (k : Int) := by omega
       have HF1 := ae (fun (W : World) (hW : Below W0.heap.size W0 W) => HFI.out i W hW)
       cases hf : bX c.splits i with
       | none =>
        have HRn := ae (recs_bad (S := c.splits) (l := l) (k := k + 1) (by rw [fN hi]; unfold mN; rw [if_pos HO.out, hf]; simp) l.length hlt)
        rw [List.take_length] at HRn
        rw [placeC_no hf] at HF1
        clear hat hi hf e' hbel hb
        go_wp2
        go_region_held3 (fun W => W.cell? ⟨w.heap.size, 0, none⟩ = some (.int .i64 c.sites) ∧ W.cell? ⟨w.heap.size, 1, none⟩ = some (.slice va c.splits.length vc) ∧ W.cell? ⟨w.heap.size, 2, none⟩ = some (.int .i64 c.again) ∧ W.cell? ⟨w.heap.size, 3, none⟩ = some (.int .i64 c.over) ∧ W.cell? ⟨w.heap.size + 1, 5, none⟩ = some (.slice (some ⟨b, off, none⟩) l.length uc) ∧ W.cell? ⟨b, off + k, none⟩ = some (.int .i64 i) ∧ Below w0.heap.size w0 W)
         (first | with_reducible exact HKU.out _ _ (by assumption) (by assumption) | with_reducible exact HSU.out _ (Below.refl _ _).drew)
         (first
          | (go_at_call 54; refine (HF1.out _ (ag HBEL.out (by first | exact (‹_ ∧ _ ∧ _ ∧ _ ∧ _ ∧ _ ∧ Below w0.heap.size w0 _›).2.2.2.2.2.2 | exact (Below.refl _ _).drew))).mono ?_; rintro e W5 ⟨rfl, hb5⟩))
        obtain ⟨x0, x1, x2, x3, y5, yk, hbX⟩ := ‹_ ∧ _ ∧ _ ∧ _ ∧ _ ∧ _ ∧ Below w0.heap.size w0 _›
        go_wp2
        go_ret
        exact ⟨by rw [HV.out, HRn.out]; rfl, ag HB.out (ag HBEL.out hbX)⟩
       | some q =>
        have HO2 := ae (show (aR c.splits (l.take (k + 1))).2 = 0 by rw [fN hi]; unfold mN; rw [if_pos HO.out, hf])
        rw [kX hf] at HF1
        clear hat hi hf e' hbel hb
        go_wp2
        go_region_held3 (fun W => W.cell? ⟨w.heap.size, 0, none⟩ = some (.int .i64 c.sites) ∧ W.cell? ⟨w.heap.size, 1, none⟩ = some (.slice va c.splits.length vc) ∧ W.cell? ⟨w.heap.size, 2, none⟩ = some (.int .i64 c.again) ∧ W.cell? ⟨w.heap.size, 3, none⟩ = some (.int .i64 c.over) ∧ W.cell? ⟨w.heap.size + 1, 5, none⟩ = some (.slice (some ⟨b, off, none⟩) l.length uc) ∧ W.cell? ⟨b, off + k, none⟩ = some (.int .i64 i) ∧ Below w0.heap.size w0 W)
         (first | with_reducible exact HKU.out _ _ (by assumption) (by assumption) | with_reducible exact HSU.out _ (Below.refl _ _).drew)
         (first
          | (go_at_call 54; refine (HF1.out _ (ag HBEL.out (by first | exact (‹_ ∧ _ ∧ _ ∧ _ ∧ _ ∧ _ ∧ Below w0.heap.size w0 _›).2.2.2.2.2.2 | exact (Below.refl _ _).drew))).mono ?_; rintro e W5 ⟨rfl, hb5⟩))
        obtain ⟨x0, x1, x2, x3, y5, yk, hbX⟩ := ‹_ ∧ _ ∧ _ ∧ _ ∧ _ ∧ _ ∧ Below w0.heap.size w0 _›
        have hq0 : ¬ (q : Int) < 0 := by omega
        have hqd : decide ((q : Int) < 0) = false := decide_eq_false hq0
        go_wp2
        go_roundw
        case rel => exact ⟨k + 1, by omega, by go_num, HO2, ag HBEL.out hbX⟩
        case measure => simp [intOf]; omega
      ·have hki : ¬ (k : Int) < (l.length : Int) := by omega
       have HRn := ae (show (aR c.splits l).2 = 0 by have := HO.out; rwa [List.take_of_length_le (by omega)] at this)
       clear hbel
       go_wp2
       go_ret
       exact ⟨by rw [HV.out, HRn.out]; rfl, ag HB.out HBEL.out⟩
    ·have HV := ae (iJ HM.out HRr.out hce)
     have hbe : (cE f != 0) = true := by simpa using hce
     have hbe2 : (cE f == 0) = false := by simpa using hce
     generalize cE f = x at HCK HV hbe hbe2
     clear hce
     go_wp2_with fail
     refine HCK.out.mono ?_
     rintro e W4 ⟨rfl, hb4⟩
     go_wp2
     go_ret
     exact ⟨by rw [HV.out]; rfl, ag HB.out (ag HB3.out hb4)⟩
end Go.Proofs.YtclcgakfmcofaaaGreatDoor
