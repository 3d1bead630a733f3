/- Texts laid together: RRow, SRowM, REq, RBytes, RTake, KByFn, KTk, RFn, RLst, SRis, RAll, SRFn, SOpen, SKit, SWipe, SRCfg, SFndA. -/
import Derived.Test.YtclcgakfmcofaaaGreatDoorRows
import Derived.Test.YtclcgakfmcofaaaGreatDoorMW18
import Derived.Test.YtclcgakfmcofaaaGreatDoorMW2
import Derived.WalkKit
import Derived.ProofKit
import Derived.OpenShut
import Derived.ShutString
import Derived.ChangeOld
import Derived.Below
import Derived.Deep.Slices
import Derived.OwnWalk
import Derived.Test.YtclcgakfmcofaaaGreatDoorMW8
import Derived.Test.YtclcgakfmcofaaaGreatDoorMW1
import Derived.Deep.RegionHeld3
import Derived.Deep.QuietTactic
import Derived.BigQuiet
import Derived.WalkSmall
import Derived.Maps.AppendAt
import Derived.ChangeArms
set_option linter.unusedVariables false
set_option maxRecDepth 100000
set_option maxHeartbeats 1600000
namespace Go.Proofs.YtclcgakfmcofaaaGreatDoor
open Go.ChangeShapes Go.WideShapes Go.ChangeAt Go.RowKit Go.Deep
open Go.ChangeMaps (open_string shut_string)
theorem ownZ : ownKnob Tryz.prog.godebug = none := by kernel_rfl
theorem Tryz.cells9Z : Tryz.prog.cellsOf 9 = 1 := by kernel_rfl
theorem bW {n : Int} (h : (Lit.int .i64 n).wf = true) : -9223372036854775808 ≤ n ∧ n ≤ 9223372036854775807 := by
 simpa [Lit.wf, IntKind.min, IntKind.max, IntKind.signed, IntKind.bits] using h
end Go.Proofs.YtclcgakfmcofaaaGreatDoor
namespace Go.Proofs.YtclcgakfmcofaaaGreatDoor
open Go.RowKit
theorem ah {p : Prop} (h : p) : Hid p := h
theorem bJ {a b c : World} (h : Below a.heap.size a b) (k : Below b.heap.size b c) : Below a.heap.size a c := h.trans (k.mono h.size)
def SpAt (w : World) (b o : Nat) (s : cM) : Prop := w.cell? ⟨b, o, none⟩ = some (.int .i64 s.1) ∧ w.cell? ⟨b, o + 1, none⟩ = some (.string s.2.1) ∧
  ∃ a cap, w.cell? ⟨b, o + 2, none⟩ = some (.slice a s.2.2.length cap) ∧ NS w (.slice a s.2.2.length cap) s.2.2 ∧ s.2.2.length ≤ cap
def SpsAt (w : World) (b off : Nat) (l : List cM) : Prop := ∀ (i : Nat) (s : cM), l[i]? = some s → SpAt w b (off + i * 3) s
def PS (w : World) (v : Value) (l : List cM) : Prop := ∃ a cap, v = .slice a l.length cap ∧ (l = [] ∨ ∃ b off, a = some ⟨b, off, none⟩ ∧ b < w.heap.size ∧ SpsAt w b off l)
theorem SpAt.below {w w' : World} {b o : Nat} {s : cM} (h : SpAt w b o s) (hb : Below w.heap.size w w') (hlt : b < w.heap.size) : SpAt w' b o s := by
 obtain ⟨h0, h1, a, cap, h2, h3, h4⟩ := h
 exact ⟨(hb.cell (p := ⟨b, _, none⟩) hlt).trans h0, (hb.cell (p := ⟨b, _, none⟩) hlt).trans h1, a, cap, (hb.cell (p := ⟨b, _, none⟩) hlt).trans h2, h3.below hb, h4⟩
theorem SpsAt.below {w w' : World} {b off : Nat} {l : List cM} (h : SpsAt w b off l) (hb : Below w.heap.size w w') (hlt : b < w.heap.size) : SpsAt w' b off l := fun i s hs => (h i s hs).below hb hlt
theorem PS.below {w w' : World} {v : Value} {l : List cM} (h : PS w v l) (hb : Below w.heap.size w w') : PS w' v l := by
 obtain ⟨a, cap, rfl, h⟩ := h
 refine ⟨a, cap, rfl, ?_⟩
 rcases h with h | ⟨b, off, rfl, hlt, h⟩
 ·exact .inl h
 ·exact .inr ⟨b, off, rfl, Nat.lt_of_lt_of_le hlt hb.size, h.below hb hlt⟩
structure WfSp (s : cM) : Prop where
 id : -9223372036854775808 ≤ s.1 ∧ s.1 ≤ 9223372036854775807
 txt : s.2.1.size ≤ 140737488351232
 len : s.2.2.length ≤ 17592186043904
 num : ∀ x ∈ s.2.2, -9223372036854775808 ≤ x ∧ x ≤ 9223372036854775807
abbrev cL (c : aX) (v : Value) : Value := .agg #[.int .i64 c.sites, v, .int .i64 c.again, .int .i64 c.over]
structure nG (W : World) (c : aX) (v : Value) : Prop where
 sites : -9223372036854775808 ≤ c.sites ∧ c.sites ≤ 9223372036854775807
 again : -9223372036854775808 ≤ c.again ∧ c.again ≤ 9223372036854775807
 over : -9223372036854775808 ≤ c.over ∧ c.over ≤ 9223372036854775807
 ps : PS W v c.splits
 len : c.splits.length ≤ 17592186043904
 wf : ∀ s ∈ c.splits, WfSp s
theorem nG.below {W W' : World} {c : aX} {v : Value} (h : nG W c v) (hb : Below W.heap.size W W') : nG W' c v := ⟨h.sites, h.again, h.over, h.ps.below hb, h.len, h.wf⟩
def dg (W : World) (b : Nat) (x0 x1 x2 x3 : Value) : Prop := W.heap[b]? = some (.cells #[x0, x1, x2, x3] 24 (0, 0))
theorem dg.new (W : World) (x0 x1 x2 x3 : Value) : dg (W.alloc (.cells #[x0, x1, x2, x3] 24)) W.heap.size x0 x1 x2 x3 := heap_alloc_new W _
theorem dg.lt {W : World} {b : Nat} {x0 x1 x2 x3 : Value} (h : dg W b x0 x1 x2 x3) : b < W.heap.size := (Array.getElem?_eq_some_iff.1 h).1
theorem dg.below {W W' : World} {b : Nat} {x0 x1 x2 x3 : Value} (h : dg W b x0 x1 x2 x3) (hb : Below W.heap.size W W') : dg W' b x0 x1 x2 x3 := by unfold dg; rw [hb.block b h.lt]; exact h
theorem dg.cells {W : World} {b : Nat} {x0 x1 x2 x3 : Value} (h : dg W b x0 x1 x2 x3) : W.cell? ⟨b, 0, none⟩ = some x0 ∧ W.cell? ⟨b, 1, none⟩ = some x1 ∧ W.cell? ⟨b, 2, none⟩ = some x2 ∧ W.cell? ⟨b, 3, none⟩ = some x3 := by
 unfold dg at h
 refine ⟨?_, ?_, ?_, ?_⟩ <;> simp [World.cell?, h]
def ct (W : World) (b : Nat) (x0 x1 x2 : Value) : Prop := W.heap[b]? = some (.cells #[x0, x1, x2] 93 (0, 0))
theorem ct.new (W : World) (x0 x1 x2 : Value) : ct (W.alloc (.cells #[x0, x1, x2] 93)) W.heap.size x0 x1 x2 := heap_alloc_new W _
theorem ct.lt {W : World} {b : Nat} {x0 x1 x2 : Value} (h : ct W b x0 x1 x2) : b < W.heap.size := (Array.getElem?_eq_some_iff.1 h).1
theorem ct.below {W W' : World} {b : Nat} {x0 x1 x2 : Value} (h : ct W b x0 x1 x2) (hb : Below W.heap.size W W') : ct W' b x0 x1 x2 := by unfold ct; rw [hb.block b h.lt]; exact h
theorem ct.cells {W : World} {b : Nat} {x0 x1 x2 : Value} (h : ct W b x0 x1 x2) : W.cell? ⟨b, 0, none⟩ = some x0 ∧ W.cell? ⟨b, 1, none⟩ = some x1 ∧ W.cell? ⟨b, 2, none⟩ = some x2 := by
 unfold ct at h
 refine ⟨?_, ?_, ?_⟩ <;> simp [World.cell?, h]
theorem ct.free {W : World} {b : Nat} {x0 x1 x2 : Value} (h : ct W b x0 x1 x2) (o : Nat) : W.frozen? ⟨b, o, none⟩ = false := by
 unfold ct at h
 simp [World.frozen?, h]
theorem eV (n : Int) (w : World) (h1 : -9223372036854775808 ≤ n) (h2 : n ≤ 9223372036854775807) :
  Calls Tryz.prog 77 #[.int .i64 n] w fun e w' => e = .returned (.string (bytesOf n)) ∧ Below w.heap.size w w' := by
 obtain ⟨i0, hi, hz0, hz1, hz2⟩ := info_parts Tryz.info5
 obtain ⟨z0, z1⟩ := zig_bd n h1 h2
 by_cases hneg : n < 0
 ·have hz : 18446744073709551615 - IntKind.u64.wrap (IntKind.u64.wrap n * 2) = iL n := by rw [IntKind.wrap_u64, IntKind.wrap_u64, iL, if_pos hneg]; omega
  have hx := lT (IntKind.u64.wrap (IntKind.u64.wrap n * 2)) (by rw [IntKind.wrap_u64]; omega) (by rw [IntKind.wrap_u64]; omega)
  have HZ : Hid (bits .xor .u64 IntKind.u64.max (IntKind.u64.wrap (IntKind.u64.wrap n * 2)) = iL n) := hx.trans hz
  clear hz hx
  go_enter Tryz.func77, Tryz.ntmps77
  go_wp2
  go_loopw [4, 3] (fun v u wr => ∃ (l : List Int) (x : Int), u = .int .u64 x ∧ x ≤ 18446744073709551615 ∧ Left (iL n) x l ∧ wr.ownsRow w.heap.size 5 1 v l.length (l.map (Value.int .u8)) ∧ Below w.heap.size w wr)
   (fun _ u _ => (intOf u).toNat)
  case atStart => exact ⟨[], _, rfl, by rw [HZ.out]; exact z1, by rw [HZ.out]; exact iM _ z0 z1, World.ownsRow_nil _ _ _ _, Below.refl _ _⟩
  case round =>
   obtain ⟨l, x, rfl, hxm, hL, hown, hb⟩ := hrel
   have hx0 := mh hL
   have hlen := mg hL
   have hsz := hb.size
   by_cases hx : x < 128
   ·have HE : Hid (l ++ [x] = ix 10 (iL n)) := mf hL hx
    go_wp2_with (at_builtin; refine wpList_append_own _ rfl _ _ 68 rfl w.heap.size 5 i0 (.int .u8 0) 1 1 Tryz.underlying68 hi hz0 hz1 hz2 rfl (by decide) _ _ _ rfl (hown.alloc _) ⟨wr.heap.size, 0, none⟩ 1 1 [.int .u8 x] rfl rfl ?c1a ?c2a ?c3a ?c4a ?c5a ?_)
    case c1a =>
     intro j u hj
     match j, hj with
     | 0, hj => simp at hj; subst hj; simp [Addr.add]
    case c2a => first | rfl | (intro u hu; simp at hu; subst hu; rfl)
    case c3a => unfold maxLen; omega
    case c4a => omega
    case c5a => simp; omega
    intro v2 w2 hown2 hgrow2 _
    have hown3 : w2.ownsRow w.heap.size 5 1 v2 (ix 10 (iL n)).length ((ix 10 (iL n)).map (Value.int .u8)) := by rw [← HE.out]; simpa using hown2
    have hcv := mi hown3 (by rw [← HE.out]; simp)
    have hbel : Below w.heap.size w w2 := (hb.alloc hsz _).grown hgrow2 (by simp; omega) (fun k hk => by
     rcases hown.2 with ⟨rfl, _⟩ | ⟨g, cap, cur, rfl, hg, _⟩
     ·cases hk
     ·cases hk; exact hg)
    clear hown2 hgrow2 hown hown3
    go_wp2
    go_ret
    exact ⟨rfl, hbel⟩
   ·have HE := kv hL hx
    have hx' : 128 ≤ x := by omega
    go_wp2_with (at_builtin; refine wpList_append_own _ rfl _ _ 68 rfl w.heap.size 5 i0 (.int .u8 0) 1 1 Tryz.underlying68 hi hz0 hz1 hz2 rfl (by decide) _ _ _ rfl (hown.alloc _) ⟨wr.heap.size, 0, none⟩ 1 1 [.int .u8 (x % 128 + 128)] rfl rfl ?d1a ?d2a ?d3a ?d4a ?d5a ?_)
    case d2a => first | rfl | (intro u hu; simp at hu; subst hu; rfl)
    case d3a => unfold maxLen; omega
    case d4a => omega
    case d5a => first | omega | (simp; omega)
    intro v2 w2 hown2 hgrow2 _
    have hown3 : w2.ownsRow w.heap.size 5 1 v2 (l ++ [x % 128 + 128]).length ((l ++ [x % 128 + 128]).map (Value.int .u8)) := by simpa using hown2
    have hbel : Below w.heap.size w w2 := (hb.alloc hsz _).grown hgrow2 (by simp; omega) (fun k hk => by
     rcases hown.2 with ⟨rfl, _⟩ | ⟨g, cap, cur, rfl, hg, _⟩
     ·cases hk
     ·cases hk; exact hg)
    clear hown2 hgrow2 hown
    go_wp2
    go_roundw
    case rel => exact ⟨_, _, rfl, by omega, HE, hown3, hbel⟩
    case measure => simp [intOf]; omega
 ·have HZ : Hid (n * 2 = iL n) := by unfold Hid iL; rw [if_neg hneg]; omega
  have hpos : 0 ≤ n := by omega
  clear hneg
  go_enter Tryz.func77, Tryz.ntmps77
  go_wp2
  go_loopw [4, 3] (fun v u wr => ∃ (l : List Int) (x : Int), u = .int .u64 x ∧ x ≤ 18446744073709551615 ∧ Left (iL n) x l ∧ wr.ownsRow w.heap.size 5 1 v l.length (l.map (Value.int .u8)) ∧ Below w.heap.size w wr)
   (fun _ u _ => (intOf u).toNat)
  case atStart => exact ⟨[], _, rfl, by rw [HZ.out]; exact z1, by rw [HZ.out]; exact iM _ z0 z1, World.ownsRow_nil _ _ _ _, Below.refl _ _⟩
  case round =>
   obtain ⟨l, x, rfl, hxm, hL, hown, hb⟩ := hrel
   have hx0 := mh hL
   have hlen := mg hL
   have hsz := hb.size
   by_cases hx : x < 128
   ·have HE : Hid (l ++ [x] = ix 10 (iL n)) := mf hL hx
    go_wp2_with (at_builtin; refine wpList_append_own _ rfl _ _ 68 rfl w.heap.size 5 i0 (.int .u8 0) 1 1 Tryz.underlying68 hi hz0 hz1 hz2 rfl (by decide) _ _ _ rfl (hown.alloc _) ⟨wr.heap.size, 0, none⟩ 1 1 [.int .u8 x] rfl rfl ?c1b ?c2b ?c3b ?c4b ?c5b ?_)
    case c1b =>
     intro j u hj
     match j, hj with
     | 0, hj => simp at hj; subst hj; simp [Addr.add]
    case c2b => first | rfl | (intro u hu; simp at hu; subst hu; rfl)
    case c3b => unfold maxLen; omega
    case c4b => omega
    case c5b => simp; omega
    intro v2 w2 hown2 hgrow2 _
    have hown3 : w2.ownsRow w.heap.size 5 1 v2 (ix 10 (iL n)).length ((ix 10 (iL n)).map (Value.int .u8)) := by rw [← HE.out]; simpa using hown2
    have hcv := mi hown3 (by rw [← HE.out]; simp)
    have hbel : Below w.heap.size w w2 := (hb.alloc hsz _).grown hgrow2 (by simp; omega) (fun k hk => by
     rcases hown.2 with ⟨rfl, _⟩ | ⟨g, cap, cur, rfl, hg, _⟩
     ·cases hk
     ·cases hk; exact hg)
    clear hown2 hgrow2 hown hown3
    go_wp2
    go_ret
    exact ⟨rfl, hbel⟩
   ·have HE := kv hL hx
    have hx' : 128 ≤ x := by omega
    go_wp2_with (at_builtin; refine wpList_append_own _ rfl _ _ 68 rfl w.heap.size 5 i0 (.int .u8 0) 1 1 Tryz.underlying68 hi hz0 hz1 hz2 rfl (by decide) _ _ _ rfl (hown.alloc _) ⟨wr.heap.size, 0, none⟩ 1 1 [.int .u8 (x % 128 + 128)] rfl rfl ?d1b ?d2b ?d3b ?d4b ?d5b ?_)
    case d2b => first | rfl | (intro u hu; simp at hu; subst hu; rfl)
    case d3b => unfold maxLen; omega
    case d4b => omega
    case d5b => first | omega | (simp; omega)
    intro v2 w2 hown2 hgrow2 _
    have hown3 : w2.ownsRow w.heap.size 5 1 v2 (l ++ [x % 128 + 128]).length ((l ++ [x % 128 + 128]).map (Value.int .u8)) := by simpa using hown2
    have hbel : Below w.heap.size w w2 := (hb.alloc hsz _).grown hgrow2 (by simp; omega) (fun k hk => by
     rcases hown.2 with ⟨rfl, _⟩ | ⟨g, cap, cur, rfl, hg, _⟩
     ·cases hk
     ·cases hk; exact hg)
    clear hown2 hgrow2 hown
    go_wp2
    go_roundw
    case rel => exact ⟨_, _, rfl, by omega, HE, hown3, hbel⟩
    case measure => simp [intOf]; omega
theorem or_step' (k : Nat) (x c : Int) (hx0 : 0 ≤ x) (hx : x < 2 ^ (7 * k)) (hc0 : 0 ≤ c) (hc : c < 256) (hk : k ≤ 8 ∨ k = 9 ∧ c ≤ 1) :
  bits .or .u64 x (IntKind.u64.wrap (c % 128 * 2 ^ (7 * k))) = x + c % 128 * 2 ^ (7 * k) := by
 have h := (or_step k x c hx0 hx hc0 hc hk).1
 rwa [nW c hc0 hc, IntWalk.u64_in (c % 128) (by omega)] at h
theorem oZ (s : ByteArray) (w : World) (hs : s.size ≤ maxLen) :
  Calls Tryz.prog 83 #[.string s] w fun e w' => e = .returned (.tuple #[.int .i64 (ai s).1, .int .i64 (ai s).2.1, .int .i64 (ai s).2.2]) ∧ w' = w := by
 unfold maxLen at hs
 go_enter Tryz.func83, Tryz.ntmps83
 go_wp2
 go_loop [5, 6] (fun u i => ∃ (k : Nat) (x : Int), k ≤ s.size ∧ k ≤ 9 ∧ i = .int .i64 k ∧ u = .int .u64 x ∧ 0 ≤ x ∧ Hid (x < 2 ^ (7 * k)) ∧ Hid (ai s = dx (s.data.toList.drop k) k x)) (fun _ i => s.size - (intOf i).toNat)
 case atStart => exact ⟨0, 0, by omega, by omega, rfl, rfl, by omega, by unfold Hid; decide, rfl⟩
 case round =>
  obtain ⟨k, x, hk, hk9, rfl, rfl, hx0, HX, HT⟩ := hrel
  by_cases hlt : k < s.size
  ·have hc1 : s[k].toNat < 256 := s[k].toNat_lt
   have hd := dy s k hlt
   by_cases h9 : k = 9 ∧ 1 < s[k].toNat
   ·obtain ⟨h9, hb⟩ := h9
    have HE : Hid (ai s = (0, 0, 7)) := by rw [HT.out, hd]; exact iN _ _ _ _ h9 hb
    have h9' : 9 ≤ k := by omega
    clear h9 hd HT HX
    go_wp2
    go_ret3
    exact ⟨iR HE.out rfl rfl rfl, rfl⟩
   ·obtain ⟨_, hl0, hl1, hl2⟩ := or_step k x s[k].toNat hx0 HX.out (by omega) (by omega) (by omega)
    have ho := or_step' k x s[k].toNat hx0 HX.out (by omega) (by omega) (by omega)
    by_cases hb : 128 ≤ s[k].toNat
    ·have HE : Hid (ai s = dx (s.data.toList.drop (k + 1)) (k + 1) (x + (s[k].toNat : Int) % 128 * 2 ^ (7 * k))) := by rw [HT.out, hd]; exact iO _ _ _ _ (by omega) hb
     have HX2 : Hid (x + (s[k].toNat : Int) % 128 * 2 ^ (7 * k) < 2 ^ (7 * (k + 1))) := hl2 (by omega)
     have h8 : k ≤ 8 := by omega
     have HO : Hid (_ = _) := ho
     clear ho hd HT HX hl2 hl1 h9
     go_wp2
     go_round
     case rel => exact ⟨k + 1, _, by omega, by omega, by go_num, by rw [HO.out], hl0, HX2, HE⟩
     case measure => simp [intOf]; omega
    ·have hb' : s[k].toNat < 128 := by omega
     by_cases hz : s[k].toNat = 0 ∧ 0 < k
     ·obtain ⟨hz, hk0⟩ := hz
      have HE : Hid (ai s = (0, 0, 7)) := by rw [HT.out, hd]; exact iP _ _ _ _ hk0 hz
      have hz' : s[k].toNat ≤ 0 := by omega
      have hk0' : (0 : Int) < k := by omega
      clear ho hd HT HX hl2 hl1 h9 hz hb
      go_wp2
      all_goals
       go_ret3
       exact ⟨iR HE.out rfl rfl rfl, rfl⟩
     ·have HE : Hid (ai s = (ku (x + (s[k].toNat : Int) % 128 * 2 ^ (7 * k)), (k : Int) + 1, 0)) := by rw [HT.out, hd]; exact kw _ _ _ _ (by omega) hb' (by omega)
      have ho9 : k = 9 → bits .or .u64 x ((s[k].toNat : Int) % 128 * 9223372036854775808) = x + (s[k].toNat : Int) % 128 * 2 ^ (7 * k) := by
       intro h9e
       rw [← ho, show (2 : Int) ^ (7 * k) = 9223372036854775808 by rw [h9e]; rfl, IntWalk.u64_in _ (by omega)]
      generalize x + (s[k].toNat : Int) % 128 * 2 ^ (7 * k) = y at *
      clear hd HT HX hl2 hb
      by_cases h9e : k = 9
      ·have ho := ho9 h9e
       have hq : 9 ≤ k := by omega
       have hc : (s[k].toNat : Int) ≤ 1 := by omega
       have hz0 : ((s[k].toNat : Int) == 0) = false := by simp; omega
       clear h9 hz h9e ho9
       by_cases h2 : y % 2 = 1
       ·have ht : (bits .and .u64 y 1 == 1) = true := by rw [and1 y hl0 hl1, h2]; rfl
        have H : Hid (bits .xor .i64 (-1) (y / 2) = ku y) := by unfold Hid ku; rw [if_pos h2, lU _ (by omega) (by omega)]
        clear h2
        go_wp2
        go_ret3
        exact ⟨iR HE.out H.out (by omega) rfl, rfl⟩
       ·have ht : (bits .and .u64 y 1 == 1) = false := by rw [and1 y hl0 hl1]; simp; omega
        have H : Hid (y / 2 = ku y) := by unfold Hid ku; rw [if_neg h2]
        clear h2
        go_wp2
        go_ret3
        exact ⟨iR HE.out H.out (by omega) rfl, rfl⟩
      ·have hq : ((k : Int) == 9) = false := by simp; omega
       by_cases hz1 : s[k].toNat = 0
       ·have hz0 : ((s[k].toNat : Int) == 0) = true := by simp; omega
        have hk0 : (k : Int) ≤ 0 := by omega
        clear h9 hz h9e hz1 ho9
        by_cases h2 : y % 2 = 1
        ·have ht : (bits .and .u64 y 1 == 1) = true := by rw [and1 y hl0 hl1, h2]; rfl
         have H : Hid (bits .xor .i64 (-1) (y / 2) = ku y) := by unfold Hid ku; rw [if_pos h2, lU _ (by omega) (by omega)]
         clear h2
         go_wp2
         go_ret3
         exact ⟨iR HE.out H.out (by omega) rfl, rfl⟩
        ·have ht : (bits .and .u64 y 1 == 1) = false := by rw [and1 y hl0 hl1]; simp; omega
         have H : Hid (y / 2 = ku y) := by unfold Hid ku; rw [if_neg h2]
         clear h2
         go_wp2
         go_ret3
         exact ⟨iR HE.out H.out (by omega) rfl, rfl⟩
       ·have hz0 : ((s[k].toNat : Int) == 0) = false := by simp; omega
        clear h9 hz h9e hz1 ho9
        by_cases h2 : y % 2 = 1
        ·have ht : (bits .and .u64 y 1 == 1) = true := by rw [and1 y hl0 hl1, h2]; rfl
         have H : Hid (bits .xor .i64 (-1) (y / 2) = ku y) := by unfold Hid ku; rw [if_pos h2, lU _ (by omega) (by omega)]
         clear h2
         go_wp2
         go_ret3
         exact ⟨iR HE.out H.out rfl rfl, rfl⟩
        ·have ht : (bits .and .u64 y 1 == 1) = false := by rw [and1 y hl0 hl1]; simp; omega
         have H : Hid (y / 2 = ku y) := by unfold Hid ku; rw [if_neg h2]
         clear h2
         go_wp2
         go_ret3
         exact ⟨iR HE.out H.out rfl rfl, rfl⟩
  ·have HE : Hid (ai s = (0, 0, 6)) := by rw [HT.out, drop_end s k (by omega)]; exact nX _ _
   clear HT HX
   go_wp2
   go_ret3
   exact ⟨iR HE.out rfl rfl rfl, rfl⟩
theorem aY (w : World) (a : Int) (b : ByteArray) (T : TypeId) :
  Below w.heap.size w (w.alloc (.cells #[.int .i64 a, .string b] T)) ∧ w.heap.size < (w.alloc (.cells #[.int .i64 a, .string b] T)).heap.size ∧ (w.alloc (.cells #[.int .i64 a, .string b] T)).cell? ⟨w.heap.size, 0, none⟩ = some (.int .i64 a) ∧ (w.alloc (.cells #[.int .i64 a, .string b] T)).cell? ⟨w.heap.size, 1, none⟩ = some (.string b) :=
 ⟨(Below.refl _ _).alloc (Nat.le_refl _) _, by simp, by unfold World.cell?; rw [(MapKept.heap_alloc w _).1]; rfl, by unfold World.cell?; rw [(MapKept.heap_alloc w _).1]; rfl⟩
theorem text_anyZ (s : ByteArray) (w : World) (hs : s.size ≤ maxLen) :
  Calls Tryz.prog 218 #[.string s] w fun e w' => e = .returned (.tuple #[.string (bK s).1, .int .i64 (bK s).2.1, .int .i64 (bK s).2.2]) ∧ w' = w := by
 have ht := fun W => mm s W hs
 unfold bK
 obtain ⟨m, n, e, he⟩ : ∃ m n e, ai s = (m, n, e) := ⟨_, _, _, rfl⟩
 have hback := ib s m n
 rw [he] at hback ht ⊢
 simp only at ht ⊢
 unfold maxLen at hs
 by_cases h0 : e = 0
 ·subst h0
  obtain ⟨q, rfl, hq, hm1, hm2, hq10⟩ := hback rfl
  replace hq10 : q ≤ 10 := by
   have := aN m
   rw [hq10, ByteArray.size_extract] at this
   omega
  clear hback he
  simp only [ne_eq, not_true_eq_false, if_false]
  by_cases hneg : m < 0
  ·rw [if_pos (.inl hneg)]
   go_enter Tryz.func218, Tryz.ntmps218
   go_wp2_with (go_at_call 82; refine (ht _).mono ?_; rintro e w' ⟨rfl, rfl⟩)
   go_ret3
   exact ⟨rfl, rfl⟩
  by_cases hbig : 64 < m
  ·rw [if_pos (.inr hbig)]
   go_enter Tryz.func218, Tryz.ntmps218
   go_wp2_with (go_at_call 82; refine (ht _).mono ?_; rintro e w' ⟨rfl, rfl⟩)
   go_ret3
   exact ⟨rfl, rfl⟩
  rw [if_neg (by omega)]
  obtain ⟨p, rfl⟩ : ∃ p : Nat, m = (p : Int) := ⟨m.toNat, by omega⟩
  by_cases hcut : s.size < q + p
  ·rw [if_pos (by omega)]
   have hd : decide ((s.size : Int) < ((q + p : Nat) : Int)) = true := by simp; omega
   go_enter Tryz.func218, Tryz.ntmps218
   go_wp2_with (go_at_call 82; refine (ht _).mono ?_; rintro e w' ⟨rfl, rfl⟩)
   go_ret3
   exact ⟨rfl, rfl⟩
  ·rw [if_neg (by omega)]
   have hd : decide ((s.size : Int) < ((q + p : Nat) : Int)) = false := by simp; omega
   go_enter Tryz.func218, Tryz.ntmps218
   go_wp2_with (go_at_call 82; refine (ht _).mono ?_; rintro e w' ⟨rfl, rfl⟩)
   go_ret3
   exact ⟨rfl, rfl⟩
 ·simp only [ne_eq, h0, not_false_eq_true, if_true]
  go_enter Tryz.func218, Tryz.ntmps218
  go_wp2_with (go_at_call 82; refine (ht _).mono ?_; rintro e w' ⟨rfl, rfl⟩)
  go_ret3
  exact ⟨rfl, rfl⟩
theorem q10Z {s : ByteArray} {m j : Int} (h : ai s = (m, j, 0)) : ∃ q : Nat, j = (q : Int) ∧ q ≤ s.size ∧ q ≤ 10 ∧ -9223372036854775808 ≤ m ∧ m ≤ 9223372036854775807 := by
 obtain ⟨q, e, hq, h1, h2, h3⟩ := ib s m j h
 refine ⟨q, e, hq, ?_, h1, h2⟩
 have := aN m
 rw [h3, ByteArray.size_extract] at this
 omega
theorem text10Z (s : ByteArray) : 0 ≤ (bK s).2.1 ∧ (bK s).2.1 ≤ 74 := by
 unfold bK
 split
 ·simp
 ·next h0 =>
  have h0 : (ai s).2.2 = 0 := by simpa using h0
  obtain ⟨q, e, hq, hq1, _⟩ := q10Z (s := s) (m := (ai s).1) (j := (ai s).2.1) (by rw [← h0])
  split
  ·simp
  ·split
   ·simp
   ·simp only; omega
theorem aV {P : Program} {fn : Func} {t u v : Tmp} {T : TypeId} {a : Addr} {x : Value} (h : fn.results = #[.cell t T, .tmp u, .tmp v]) {tmps : Array Value} {w : World} (hp : tmps.getD t undef = .pointer (some a)) (hl : (loadVar T a).run P w = .ok x w) :
  (results fn tmps).run P w = .ok (.tuple #[x, tmps.getD u undef, tmps.getD v undef]) w := by
 have hp' : tmps[t]?.getD undef = .pointer (some a) := by simpa using hp
 simp [results, h, hp', hl, asAddr]
theorem gl {W : World} {b o : Nat} {a : Int} {s : ByteArray} (h0 : W.cell? ⟨b, o, none⟩ = some (.int .i64 a)) (h1 : W.cell? ⟨b, o + 1, none⟩ = some (.string s)) : (loadVar 124 ⟨b, o, none⟩).run Tryz.prog W = .ok (.agg #[.int .i64 a, .string s]) W := by
 have a30 := Tryz.isAgg124
 have z30 := Tryz.sizeOf124
 have hc := run_loadCells_list (P := Tryz.prog) W ⟨b, o, none⟩ [.int .i64 a, .string s] (fun j v hj => by
  match j, hj with
  | 0, hj => simp at hj; subst hj; simpa [Addr.add] using h0
  | 1, hj => simp at hj; subst hj; simpa [Addr.add] using h1)
 simp [loadVar, a30, z30]
 have hc' : (loadCells ⟨b, o, none⟩ 2).run Tryz.prog W = .ok #[.int .i64 a, .string s] W := hc
 rw [hc']
 rfl
theorem ktake_anyZ (s : ByteArray) (w : World) (hs : s.size ≤ maxLen) :
  Calls Tryz.prog 191 #[.string s] w fun e w' => e = .returned (.tuple #[.agg #[.int .i64 (bp s).1.1, .string (bp s).1.2], .int .i64 (bp s).2.1, .int .i64 (bp s).2.2]) ∧ Below w.heap.size w w' := by
 have ht := fun W => mm s W hs
 unfold bp
 obtain ⟨m, n, e, he⟩ : ∃ m n e, ai s = (m, n, e) := ⟨_, _, _, rfl⟩
 have hback := @q10Z s m n
 rw [he] at hback ht ⊢
 simp only at ht ⊢
 by_cases h0 : e = 0
 ·subst h0
  obtain ⟨q, rfl, hq, hq10, hm1, hm2⟩ := hback rfl
  clear hback he
  simp only [ne_eq, not_true_eq_false, if_false]
  have hx := fun W => text_anyZ (s.extract q s.size) W (by rw [ByteArray.size_extract]; omega)
  have h74 := text10Z (s.extract q s.size)
  simp only [from', Int.toNat_natCast]
  obtain ⟨b, k, f, hr⟩ : ∃ b k f, bK (s.extract q s.size) = (b, k, f) := ⟨_, _, _, rfl⟩
  simp only [hr] at hx h74 ⊢
  clear hr
  by_cases h1 : f = 0
  ·subst h1
   simp only [not_true_eq_false, if_false]
   go_enter Tryz.func191, Tryz.ntmps191
   go_wp2_with (first | (go_at_call 82; refine (ht _).mono ?_; rintro e w' ⟨rfl, rfl⟩) | (go_at_call 218; refine (hx _).mono ?_; rintro e w' ⟨rfl, rfl⟩))
   exact bodyPost_ret (aV rfl rfl (gl (aY w _ _ _).2.2.1 (aY w _ _ _).2.2.2)) rfl ⟨rfl, (aY w _ _ _).1⟩
  ·simp only [h1, not_false_eq_true, if_true]
   go_enter Tryz.func191, Tryz.ntmps191
   go_wp2_with (first | (go_at_call 82; refine (ht _).mono ?_; rintro e w' ⟨rfl, rfl⟩) | (go_at_call 218; refine (hx _).mono ?_; rintro e w' ⟨rfl, rfl⟩))
   exact bodyPost_ret (aV rfl rfl (gl (aY w _ _ _).2.2.1 (aY w _ _ _).2.2.2)) rfl ⟨rfl, (aY w _ _ _).1⟩
 ·simp only [ne_eq, h0, not_false_eq_true, if_true]
  go_enter Tryz.func191, Tryz.ntmps191
  go_wp2_with (go_at_call 82; refine (ht _).mono ?_; rintro e w' ⟨rfl, rfl⟩)
  exact bodyPost_ret (aV rfl rfl (gl (aY w _ _ _).2.2.1 (aY w _ _ _).2.2.2)) rfl ⟨rfl, (aY w _ _ _).1⟩
def SmZ (s : ByteArray) : Prop := s.size ≤ maxLen
theorem eF (s : ByteArray) (w : World) (hs : SmZ s) :
  Calls Tryz.prog 83 #[.string s] w fun e w' => e = .returned (.tuple #[.int .i64 (ai s).1, .int .i64 (ai s).2.1, .int .i64 (ai s).2.2]) ∧ w' = w := oZ s w hs
theorem rtake3_anyZ (s : ByteArray) (w : World) (hs : s.size ≤ maxLen) :
  Calls Tryz.prog 115 #[.string s] w fun e w' => e = .returned (.tuple #[.agg #[.int .i64 (bp s).1.1, .string (bp s).1.2], .int .i64 (bp s).2.1, .int .i64 (bp s).2.2]) ∧ Below w.heap.size w w' := by
 have s1 : SmZ s := hs
 unfold bp
 obtain ⟨m, n, e, he⟩ : ∃ m n e, ai s = (m, n, e) := ⟨_, _, _, rfl⟩
 have hback := @q10Z s m n
 rw [he] at hback ⊢
 simp only
 by_cases h0 : e = 0
 ·subst h0
  obtain ⟨q, rfl, hq, hq10, hm1, hm2⟩ := hback rfl
  clear hback
  simp only [ne_eq, not_true_eq_false, if_false]
  have s2 : SmZ (s.extract q s.size) := by unfold SmZ; rw [ByteArray.size_extract]; omega
  have hz : (s.extract q s.size).size = s.size - q := by rw [ByteArray.size_extract]; omega
  simp only [from', Int.toNat_natCast, bK]
  obtain ⟨m2, n2, e2, he2⟩ : ∃ m n e, ai (s.extract q s.size) = (m, n, e) := ⟨_, _, _, rfl⟩
  have hback2 := @q10Z (s.extract q s.size) m2 n2
  rw [he2] at hback2
  simp only [he2]
  by_cases h1 : e2 = 0
  ·subst h1
   obtain ⟨q2, rfl, hq2, hq102, hm12, hm22⟩ := hback2 rfl
   clear hback2
   simp only [ne_eq, not_true_eq_false, if_false]
   by_cases hneg : m2 < 0
   ·simp only [hneg, true_or, if_true]
    go_enter Tryz.func115, Tryz.ntmps115
    go_wp2_with (go_at_call 83; refine (eF _ _ (by assumption)).mono ?_; rintro e w' ⟨rfl, rfl⟩)
    exact bodyPost_ret (aV rfl rfl (gl (aY w _ _ _).2.2.1 (aY w _ _ _).2.2.2)) rfl ⟨rfl, (aY w _ _ _).1⟩
   ·by_cases hbig : 64 < m2
    ·simp only [hbig, or_true, if_true]
     go_enter Tryz.func115, Tryz.ntmps115
     go_wp2_with (go_at_call 83; refine (eF _ _ (by assumption)).mono ?_; rintro e w' ⟨rfl, rfl⟩)
     exact bodyPost_ret (aV rfl rfl (gl (aY w _ _ _).2.2.1 (aY w _ _ _).2.2.2)) rfl ⟨rfl, (aY w _ _ _).1⟩
    ·simp only [hneg, hbig, or_false, if_false]
     obtain ⟨p, rfl⟩ : ∃ p : Nat, m2 = (p : Int) := ⟨m2.toNat, by omega⟩
     unfold maxLen at hs
     by_cases hcut : s.size - q < q2 + p
     ·have hd : ((s.extract q s.size).size : Int) < (q2 : Int) + (p : Int) := by rw [hz]; omega
      simp only [hd, if_true]
      go_enter Tryz.func115, Tryz.ntmps115
      go_wp2_with (go_at_call 83; refine (eF _ _ (by assumption)).mono ?_; rintro e w' ⟨rfl, rfl⟩)
      exact bodyPost_ret (aV rfl rfl (gl (aY w _ _ _).2.2.1 (aY w _ _ _).2.2.2)) rfl ⟨rfl, (aY w _ _ _).1⟩
     ·have hd : ¬ ((s.extract q s.size).size : Int) < (q2 : Int) + (p : Int) := by rw [hz]; omega
      have hxx : (s.extract q s.size).extract q2 (q2 + p) = s.extract (q + q2) (q + q2 + p) := by
       apply bT
       show L _ = L _
       simp only [L_ext, List.drop_take, List.take_take, List.drop_drop]
       congr 1
       ·omega
      simp only [hd, if_false]
      have e5 : ((q2 : Int) + (p : Int)).toNat = q2 + p := by omega
      rw [e5, Int.toNat_natCast, hxx, ← Int.add_assoc]
      go_enter Tryz.func115, Tryz.ntmps115
      go_wp2_with (go_at_call 83; refine (eF _ _ (by assumption)).mono ?_; rintro e w' ⟨rfl, rfl⟩)
      exact bodyPost_ret (aV rfl rfl (gl (aY w _ _ _).2.2.1 (aY w _ _ _).2.2.2)) rfl ⟨rfl, (aY w _ _ _).1⟩
  ·simp only [ne_eq, h1, not_false_eq_true, if_true]
   go_enter Tryz.func115, Tryz.ntmps115
   go_wp2_with (go_at_call 83; refine (eF _ _ (by assumption)).mono ?_; rintro e w' ⟨rfl, rfl⟩)
   exact bodyPost_ret (aV rfl rfl (gl (aY w _ _ _).2.2.1 (aY w _ _ _).2.2.2)) rfl ⟨rfl, (aY w _ _ _).1⟩
 ·simp only [ne_eq, h0, not_false_eq_true, if_true]
  go_enter Tryz.func115, Tryz.ntmps115
  go_wp2_with (go_at_call 83; refine (eF _ _ (by assumption)).mono ?_; rintro e w' ⟨rfl, rfl⟩)
  exact bodyPost_ret (aV rfl rfl (gl (aY w _ _ _).2.2.1 (aY w _ _ _).2.2.2)) rfl ⟨rfl, (aY w _ _ _).1⟩
def BoxR (W : World) (b : Nat) (x : Rc) : Prop := b < W.heap.size ∧ W.cell? ⟨b, 0, none⟩ = some (.int .i64 x.1.1) ∧ W.cell? ⟨b, 1, none⟩ = some (.string x.1.2) ∧ W.cell? ⟨b, 2, none⟩ = some (.int .i64 x.2)
theorem BoxR.new (W : World) (a : Int) (s : ByteArray) (v : Int) (T : TypeId) : BoxR (W.alloc (.cells #[.int .i64 a, .string s, .int .i64 v] T)) W.heap.size ((a, s), v) :=
 ⟨by simp, by unfold World.cell?; rw [(MapKept.heap_alloc W _).1]; rfl, by unfold World.cell?; rw [(MapKept.heap_alloc W _).1]; rfl, by unfold World.cell?; rw [(MapKept.heap_alloc W _).1]; rfl⟩
theorem cI (W : World) (o : Obj) : Below W.heap.size W (W.alloc o) := (Below.refl _ _).alloc (Nat.le_refl _) _
theorem bP {w W W' : World} (h : Below w.heap.size w W) (hb : Below W.heap.size W W') : Below w.heap.size w W' := h.trans (hb.mono h.size)
theorem loadR {W : World} {b : Nat} {a v : Int} {s : ByteArray} (h0 : W.cell? ⟨b, 0, none⟩ = some (.int .i64 a)) (h1 : W.cell? ⟨b, 1, none⟩ = some (.string s)) (h2 : W.cell? ⟨b, 2, none⟩ = some (.int .i64 v)) :
  (loadVar 155 ⟨b, 0, none⟩).run Tryz.prog W = .ok (.agg #[.int .i64 a, .string s, .int .i64 v]) W := by
 have a30 := Tryz.isAgg155
 have z30 := Tryz.sizeOf155
 have hc := run_loadCells_list (P := Tryz.prog) W ⟨b, 0, none⟩ [.int .i64 a, .string s, .int .i64 v] (fun j v hj => by
  match j, hj with
  | 0, hj => simp at hj; subst hj; simpa [Addr.add] using h0
  | 1, hj => simp at hj; subst hj; simpa [Addr.add] using h1
  | 2, hj => simp at hj; subst hj; simpa [Addr.add] using h2)
 simp [loadVar, a30, z30]
 have hc' : (loadCells ⟨b, 0, none⟩ 3).run Tryz.prog W = .ok #[.int .i64 a, .string s, .int .i64 v] W := hc
 rw [hc']
 rfl
def ex (W : World) (b : Nat) (x : Rc) : Prop := W.heap[b]? = some (.cells #[.int .i64 x.1.1, .string x.1.2, .int .i64 x.2] 155 (0, 0))
theorem ex.new (W : World) (a : Int) (s : ByteArray) (v : Int) : ex (W.alloc (.cells #[.int .i64 a, .string s, .int .i64 v] 155)) W.heap.size ((a, s), v) := (MapKept.heap_alloc W _).1
theorem ex.lt {W : World} {b : Nat} {x : Rc} (h : ex W b x) : b < W.heap.size := (Array.getElem?_eq_some_iff.1 h).1
theorem ex.step {W W' : World} {b : Nat} {x : Rc} (h : ex W b x) (hw : Below W.heap.size W W') : ex W' b x := by unfold ex; rw [hw.block b h.lt]; exact h
theorem ex.cells {W : World} {b : Nat} {x : Rc} (h : ex W b x) : W.cell? ⟨b, 0, none⟩ = some (.int .i64 x.1.1) ∧ W.cell? ⟨b, 1, none⟩ = some (.string x.1.2) ∧ W.cell? ⟨b, 2, none⟩ = some (.int .i64 x.2) := by
 unfold ex at h
 refine ⟨?_, ?_, ?_⟩ <;> simp [World.cell?, h]
theorem ex.free {W : World} {b : Nat} {x : Rc} (h : ex W b x) : W.frozen? ⟨b, 0, none⟩ = false ∧ W.frozen? ⟨b, 1, none⟩ = false ∧ W.frozen? ⟨b, 2, none⟩ = false := by
 unfold ex at h
 refine ⟨?_, ?_, ?_⟩ <;> simp [World.frozen?, h]
theorem ex.put {W : World} {b : Nat} {x : Rc} (h : ex W b x) (a : Int) (s : ByteArray) (v : Int) :
  ex (((W.setCell ⟨b, 0, none⟩ (.int .i64 a)).setCell ⟨b, 1, none⟩ (.string s)).setCell ⟨b, 2, none⟩ (.int .i64 v)) b ((a, s), v) := by
 unfold ex at h ⊢
 simp only [World.setCell, Array.getElem?_modify, h]
 simp
theorem fM {w W : World} {b : Nat} (h : Below w.heap.size w W) (hb : w.heap.size ≤ b) (u0 u1 u2 : Value) :
  Below w.heap.size w (((W.setCell ⟨b, 0, none⟩ u0).setCell ⟨b, 1, none⟩ u1).setCell ⟨b, 2, none⟩ u2) :=
 ((h.setCell (p := ⟨b, 0, none⟩) hb _).setCell (p := ⟨b, 1, none⟩) hb _).setCell (p := ⟨b, 2, none⟩) hb _
theorem ex.ret {fn : Func} {t u v : Tmp} {W : World} {b : Nat} {x : Rc} (hB : ex W b x) (h : fn.results = #[.cell t 155, .tmp u, .tmp v]) {tmps : Array Value} (hp : tmps.getD t undef = .pointer (some ⟨b, 0, none⟩)) :
  (results fn tmps).run Tryz.prog W = .ok (.tuple #[.agg #[.int .i64 x.1.1, .string x.1.2, .int .i64 x.2], tmps.getD u undef, tmps.getD v undef]) W :=
 aV h hp (loadR hB.cells.1 hB.cells.2.1 hB.cells.2.2)
theorem rectake_any (s : ByteArray) (w : World) (hs : s.size ≤ maxLen) :
  Calls Tryz.prog 151 #[.string s] w fun e w' => e = .returned (.tuple #[.agg #[.int .i64 (cz s).1.1.1, .string (cz s).1.1.2, .int .i64 (cz s).1.2], .int .i64 (cz s).2.1, .int .i64 (cz s).2.2]) ∧ Below w.heap.size w w' := by
 have hk := fun W => ktake_anyZ s W hs
 unfold cz
 obtain ⟨⟨ka, kb⟩, n, e, he⟩ : ∃ k n e, bp s = (k, n, e) := ⟨_, _, _, rfl⟩
 have hq := @kq s (ka, kb) n
 rw [he] at hq hk ⊢
 simp only at hk ⊢
 clear he
 have hw0 := cI w (.cells #[.int .i64 0, .string ⟨#[]⟩, .int .i64 0] 155)
 by_cases h0 : e = 0
 ·subst h0
  obtain ⟨q, rfl, hq1, hq2⟩ := hq rfl
  clear hq
  simp only [ne_eq, not_true_eq_false, if_false]
  have hx := fun W => mm (s.extract q s.size) W (by rw [ByteArray.size_extract]; omega)
  simp only [from', Int.toNat_natCast]
  obtain ⟨v, m, f, hr⟩ : ∃ b k f, ai (s.extract q s.size) = (b, k, f) := ⟨_, _, _, rfl⟩
  have hq3 := @tq (s.extract q s.size) v m
  simp only [hr] at hx hq3 ⊢
  clear hr
  go_enter Tryz.func151, Tryz.ntmps151
  go_wp2_with fail
  refine (hk _).mono ?_
  rintro e w1 ⟨rfl, hb1⟩
  have hB1 := (ex.new w 0 ⟨#[]⟩ 0).step hb1
  have hw1 := bP hw0 hb1
  have hB2 := hB1.step (cI w1 (.cells #[.int .i64 ka, .string kb] 124))
  have hw2 := bP hw1 (cI w1 (.cells #[.int .i64 ka, .string kb] 124))
  clear hw0 hb1 hB1 hw1
  obtain ⟨c0, c1, c2⟩ := hB2.cells
  obtain ⟨f0, f1, f2⟩ := hB2.free
  obtain ⟨_, _, d0, d1⟩ := aY w1 ka kb 124
  by_cases h1 : f = 0
  ·subst h1
   obtain ⟨p, rfl, hp1, hp2, _⟩ := hq3 rfl
   go_wp2_with (go_at_call 82; refine (hx _).mono ?_; rintro e w' ⟨rfl, rfl⟩)
   exact bodyPost_ret ((hB2.put _ _ _).ret rfl rfl) rfl ⟨rfl, fM hw2 (Nat.le_refl _) _ _ _⟩
  ·go_wp2_with (go_at_call 82; refine (hx _).mono ?_; rintro e w' ⟨rfl, rfl⟩)
   exact bodyPost_ret ((hB2.put _ _ _).ret rfl rfl) rfl ⟨rfl, fM hw2 (Nat.le_refl _) _ _ _⟩
 ·simp only [ne_eq, h0, not_false_eq_true, if_true]
  go_enter Tryz.func151, Tryz.ntmps151
  go_wp2_with fail
  refine (hk _).mono ?_
  rintro e w1 ⟨rfl, hb1⟩
  have hB1 := (ex.new w 0 ⟨#[]⟩ 0).step hb1
  have hw1 := bP hw0 hb1
  have hB2 := hB1.step (cI w1 (.cells #[.int .i64 ka, .string kb] 124))
  have hw2 := bP hw1 (cI w1 (.cells #[.int .i64 ka, .string kb] 124))
  clear hw0 hb1 hB1 hw1
  obtain ⟨c0, c1, c2⟩ := hB2.cells
  obtain ⟨f0, f1, f2⟩ := hB2.free
  obtain ⟨_, _, d0, d1⟩ := aY w1 ka kb 124
  go_wp2
  exact bodyPost_ret ((hB2.put _ _ _).ret rfl rfl) rfl ⟨rfl, fM hw2 (Nat.le_refl _) _ _ _⟩
theorem rtakerec_any (s : ByteArray) (w : World) (hs : s.size ≤ maxLen) :
  Calls Tryz.prog 112 #[.string s] w fun e w' => e = .returned (.tuple #[.agg #[.int .i64 (cz s).1.1.1, .string (cz s).1.1.2, .int .i64 (cz s).1.2], .int .i64 (cz s).2.1, .int .i64 (cz s).2.2]) ∧ Below w.heap.size w w' := by
 have hk := fun W => rtake3_anyZ s W hs
 unfold cz
 obtain ⟨⟨ka, kb⟩, n, e, he⟩ : ∃ k n e, bp s = (k, n, e) := ⟨_, _, _, rfl⟩
 have hq := @kq s (ka, kb) n
 rw [he] at hq hk ⊢
 simp only at hk ⊢
 clear he
 have hw0 := cI w (.cells #[.int .i64 0, .string ⟨#[]⟩, .int .i64 0] 155)
 by_cases h0 : e = 0
 ·subst h0
  obtain ⟨q, rfl, hq1, hq2⟩ := hq rfl
  clear hq
  simp only [ne_eq, not_true_eq_false, if_false]
  have hx := fun W => oZ (s.extract q s.size) W (by rw [ByteArray.size_extract]; omega)
  simp only [from', Int.toNat_natCast]
  obtain ⟨v, m, f, hr⟩ : ∃ b k f, ai (s.extract q s.size) = (b, k, f) := ⟨_, _, _, rfl⟩
  have hq3 := @tq (s.extract q s.size) v m
  simp only [hr] at hx hq3 ⊢
  clear hr
  go_enter Tryz.func112, Tryz.ntmps112
  go_wp2_with fail
  refine (hk _).mono ?_
  rintro e w1 ⟨rfl, hb1⟩
  have hB1 := (ex.new w 0 ⟨#[]⟩ 0).step hb1
  have hw1 := bP hw0 hb1
  have hB2 := hB1.step (cI w1 (.cells #[.int .i64 ka, .string kb] 124))
  have hw2 := bP hw1 (cI w1 (.cells #[.int .i64 ka, .string kb] 124))
  clear hw0 hb1 hB1 hw1
  obtain ⟨c0, c1, c2⟩ := hB2.cells
  obtain ⟨f0, f1, f2⟩ := hB2.free
  obtain ⟨_, _, d0, d1⟩ := aY w1 ka kb 124
  by_cases h1 : f = 0
  ·subst h1
   obtain ⟨p, rfl, hp1, hp2, _⟩ := hq3 rfl
   go_wp2_with (go_at_call 83; refine (hx _).mono ?_; rintro e w' ⟨rfl, rfl⟩)
   exact bodyPost_ret ((hB2.put _ _ _).ret rfl rfl) rfl ⟨rfl, fM hw2 (Nat.le_refl _) _ _ _⟩
  ·go_wp2_with (go_at_call 83; refine (hx _).mono ?_; rintro e w' ⟨rfl, rfl⟩)
   exact bodyPost_ret ((hB2.put _ _ _).ret rfl rfl) rfl ⟨rfl, fM hw2 (Nat.le_refl _) _ _ _⟩
 ·simp only [ne_eq, h0, not_false_eq_true, if_true]
  go_enter Tryz.func112, Tryz.ntmps112
  go_wp2_with fail
  refine (hk _).mono ?_
  rintro e w1 ⟨rfl, hb1⟩
  have hB1 := (ex.new w 0 ⟨#[]⟩ 0).step hb1
  have hw1 := bP hw0 hb1
  have hB2 := hB1.step (cI w1 (.cells #[.int .i64 ka, .string kb] 124))
  have hw2 := bP hw1 (cI w1 (.cells #[.int .i64 ka, .string kb] 124))
  clear hw0 hb1 hB1 hw1
  obtain ⟨c0, c1, c2⟩ := hB2.cells
  obtain ⟨f0, f1, f2⟩ := hB2.free
  obtain ⟨_, _, d0, d1⟩ := aY w1 ka kb 124
  go_wp2
  exact bodyPost_ret ((hB2.put _ _ _).ret rfl rfl) rfl ⟨rfl, fM hw2 (Nat.le_refl _) _ _ _⟩
theorem cA {α : Type} {l : List α} {i : Nat} (h : i < l.length) : ∃ x, l[i]? = some x := ⟨l[i], List.getElem?_eq_getElem h⟩
theorem cell_rec_new (w : World) (a : Int) (b : ByteArray) (v : Int) (T : TypeId) : ∀ j u, [Value.int .i64 a, .string b, .int .i64 v][j]? = some u → (w.alloc (.cells #[.int .i64 a, .string b, .int .i64 v] T)).cell? ((⟨w.heap.size, 0, none⟩ : Addr).add j) = some u := by
 intro j u hj
 rw [Addr.add_lit, Nat.zero_add]
 match j, hj with
 | 0, hj => simp at hj; subst hj; exact (BoxR.new w a b v T).2.1
 | 1, hj => simp at hj; subst hj; exact (BoxR.new w a b v T).2.2.1
 | 2, hj => simp at hj; subst hj; exact (BoxR.new w a b v T).2.2.2
theorem own_rowZ {w : World} {base n : Nat} {e : TypeId} {size : Nat} {v : Value} {xs : List Value} (h : w.ownsRow base e size v n xs) : ∀ k, v.ownBlock = some k → base ≤ k := fun k hk => (h.lt k hk).1
def aE (w wr : World) : Prop := ∃ q, wr = w.drewN q
theorem aE.refl (w : World) : aE w w := ⟨0, rfl⟩
theorem aE.step {w wr : World} (h : aE w wr) (q : Nat) : aE w (wr.drewN q) := by obtain ⟨n, rfl⟩ := h; exact ⟨n + q, by simp [World.drewN, Nat.add_assoc]⟩
theorem aE.below {w wr : World} (h : aE w wr) (B : Nat) : Below B w wr := by obtain ⟨n, rfl⟩ := h; exact ⟨rfl, rfl, rfl, Nat.le_refl _, fun _ _ => rfl⟩
structure el (lo hi : Int) (l : List Int) (k : Nat) : Prop where
 all : ∀ x ∈ l.take k, lo ≤ x ∧ x ≤ hi
 rise : (l.take k).Pairwise (· < ·)
theorem el.start (lo hi : Int) (l : List Int) : el lo hi l 0 := ⟨by simp, by simp⟩
theorem el.step {lo hi : Int} {l : List Int} {k : Nat} {x : Int} (h : el lo hi l k) (hx : l[k]? = some x) (h1 : lo ≤ x ∧ x ≤ hi) (h2 : ∀ m y, k = m + 1 → l[m]? = some y → y < x) : el lo hi l (k + 1) := by
 have hstep : l.take (k + 1) = l.take k ++ [x] := by rw [List.take_add_one, hx]; rfl
 have hk := (List.getElem?_eq_some_iff.1 hx).1
 refine ⟨fun y hy => ?_, ?_⟩
 ·rw [hstep] at hy
  rcases List.mem_append.1 hy with hy | hy
  ·exact h.all y hy
  ·simp at hy; subst hy; exact h1
 ·rw [hstep, List.pairwise_append]
  refine ⟨h.rise, by simp, fun y hy z hz => ?_⟩
  simp at hz
  subst hz
  obtain ⟨i, hi, rfl⟩ := List.getElem_of_mem hy
  have hik : i < k := by simp at hi; omega
  have hm : k - 1 < (l.take k).length := by simp; omega
  have hlast := h2 (k - 1) (l.take k)[k - 1] (by omega) (by rw [← List.getElem?_take_of_lt (by omega : k - 1 < k)]; exact List.getElem?_eq_getElem hm)
  by_cases e : i = k - 1
  ·subst e; exact hlast
  ·have := (List.pairwise_iff_getElem.1 h.rise) i (k - 1) hi hm (by omega)
   omega
theorem el.fin {lo hi : Int} {l : List Int} {k : Nat} (h : el lo hi l k) (hk : l.length ≤ k) : cr lo hi l = true := by
 obtain ⟨h1, h2⟩ := h
 rw [List.take_of_length_le hk] at h1 h2
 unfold cr
 rw [decide_eq_true h2, List.all_eq_true.2 (fun x hx => decide_eq_true (h1 x hx))]
 rfl
theorem jV {lo hi : Int} {l : List Int} {k : Nat} {x : Int} (hx : l[k]? = some x) (h : ¬ (lo ≤ x ∧ x ≤ hi)) : cr lo hi l = false := by
 cases e : cr lo hi l with
 | false => rfl
 | true => exact absurd ((gh e).1 x (List.mem_of_getElem? hx)) h
theorem risL_two {lo hi : Int} {l : List Int} {m k : Nat} {y x : Int} (hk : k = m + 1) (hy : l[m]? = some y) (hx : l[k]? = some x) (h : ¬ y < x) : cr lo hi l = false := by
 cases e : cr lo hi l with
 | false => rfl
 | true =>
  obtain ⟨h1, rfl⟩ := List.getElem?_eq_some_iff.1 hy
  obtain ⟨h2, rfl⟩ := List.getElem?_eq_some_iff.1 hx
  exact absurd ((List.pairwise_iff_getElem.1 (gh e).2) m k h1 h2 (by omega)) h
theorem lB (lo hi : Int) (v : Value) (l : List Int) (w : World) (h : NS w v l) (hl : l.length ≤ 17592186043904) :
  Calls Tryz.prog 28 #[v, .int .i64 lo, .int .i64 hi] w fun e w' => e = .returned (.bool (cr lo hi l)) ∧ aE w w' := by
 obtain ⟨va, vc, rfl, hsh⟩ := h
 go_enter Tryz.func28, Tryz.ntmps28
 go_wp2
 go_loopw [7] (fun i wr => ∃ k : Nat, k ≤ l.length ∧ i = .int .i64 k ∧ Hid (el lo hi l k) ∧ aE w wr) (fun i _ => l.length - (intOf i).toNat)
 case atStart => exact ⟨0, by omega, rfl, el.start _ _ _, aE.refl _⟩
 case round =>
  rename World => w0
  obtain ⟨k, hk, rfl, HO, hD⟩ := hrel
  by_cases hlt : k < l.length
  ·obtain ⟨x, hx⟩ := cA hlt
   rcases hsh with rfl | ⟨b, off, rfl, hb, hat⟩
   ·simp at hlt
   have c0 := (hat.below (hD.below w.heap.size) hb) k x hx
   have hk0 : (0 : Int) ≤ (k : Int) := by omega
   have hki : (k : Int) < (l.length : Int) := by omega
   by_cases h1 : lo ≤ x
   ·have d1 : decide (x < lo) = false := decide_eq_false (by omega)
    by_cases h2 : x ≤ hi
    ·have d2 : decide (hi < x) = false := decide_eq_false (by omega)
     by_cases hz : k = 0
     ·subst hz
      simp only [Nat.add_zero] at c0
      have hd1 : decide ((0 : Int) < ((0 : Nat) : Int)) = false := by decide
      have HO2 := ah (HO.out.step hx ⟨h1, h2⟩ (fun m y hm => by omega))
      clear hat hx HO
      go_wp2
      go_quiet (fail)
      go_wp2
      go_roundw
      case rel => exact ⟨1, by omega, by go_num, HO2.out, hD.step _⟩
      case measure => simp [intOf]; omega
     ·obtain ⟨m, hm⟩ : ∃ m, k = m + 1 := ⟨k - 1, by omega⟩
      obtain ⟨y, hy⟩ := cA (l := l) (i := m) (by omega)
      have c1 := (hat.below (hD.below w.heap.size) hb) m y hy
      have hwr : IntKind.i64.wrap ((k : Int) - 1) = (m : Int) := by rw [IntKind.wrap_i64]; omega
      have hm0 : (0 : Int) ≤ (m : Int) := by omega
      have hmi : (m : Int) < (l.length : Int) := by omega
      have hd1 : decide ((0 : Int) < (k : Int)) = true := decide_eq_true (by omega)
      have hd2 : decide (0 < k) = true := decide_eq_true (by omega)
      by_cases h3 : y < x
      ·have HO2 := ah (HO.out.step hx ⟨h1, h2⟩ (fun m' y' hm' hy' => by
        obtain rfl : m' = m := by omega
        rw [hy] at hy'
        injection hy' with hy'
        subst hy'
        exact h3))
       have d3 : decide (x ≤ y) = false := decide_eq_false (by omega)
       clear hat hx hy HO hm
       go_wp2
       go_quiet (fail)
       go_wp2
       go_roundw
       case rel => exact ⟨k + 1, by omega, by go_num, HO2.out, hD.step _⟩
       case measure => simp [intOf]; omega
      ·have HF := ah (risL_two (lo := lo) (hi := hi) hm hy hx h3)
       have d3 : decide (x ≤ y) = true := decide_eq_true (by omega)
       clear hat hx hy HO hm
       go_wp2
       go_quiet (fail)
       go_wp2
       go_ret
       exact ⟨by rw [HF.out]; rfl, hD.step _⟩
    ·have d2 : decide (hi < x) = true := decide_eq_true (by omega)
     have HF := ah (jV (lo := lo) (hi := hi) hx (by omega))
     clear hat hx HO
     go_wp2
     go_quiet (fail)
     go_wp2
     go_ret
     exact ⟨by rw [HF.out]; rfl, hD.step _⟩
   ·have d1 : decide (x < lo) = true := decide_eq_true (by omega)
    have HF := ah (jV (lo := lo) (hi := hi) hx (by omega))
    clear hat hx HO
    go_wp2
    go_quiet (fail)
    go_wp2
    go_ret
    exact ⟨by rw [HF.out]; rfl, hD.step _⟩
  ·have HF := ah (HO.out.fin (by omega))
   have hlt' : l.length ≤ k := by omega
   go_wp2
   go_ret
   exact ⟨by rw [HF.out]; rfl, hD⟩
theorem gR (n : Int) (w : World) : Calls Tryz.prog 36 #[.int .i64 n] w fun e w' => e = .returned (.bool (decide (1 ≤ n ∧ n ≤ 1048576))) ∧ w' = w := by
 by_cases h1 : 1 ≤ n
 ·by_cases h2 : n ≤ 1048576
  ·rw [decide_eq_true (show 1 ≤ n ∧ n ≤ 1048576 from ⟨h1, h2⟩)]
   go_enter Tryz.func36, Tryz.ntmps36
   go_wp2
   go_ret
   exact ⟨rfl, rfl⟩
  ·rw [decide_eq_false (show ¬ (1 ≤ n ∧ n ≤ 1048576) from fun e => h2 e.2)]
   go_enter Tryz.func36, Tryz.ntmps36
   go_wp2
   go_ret
   exact ⟨rfl, rfl⟩
 ·rw [decide_eq_false (show ¬ (1 ≤ n ∧ n ≤ 1048576) from fun e => h1 e.1)]
  go_enter Tryz.func36, Tryz.ntmps36
  go_wp2
  go_ret
  exact ⟨rfl, rfl⟩
def lY (s : ByteArray) (w : World) (e : Ending) (w' : World) : Prop := ∃ v', e = .returned (.tuple #[v', .int .i64 (bi s).2]) ∧ bq w' w.heap.size v' (bi s).1 ∧ Below w.heap.size w w'
def lenV : Value → Nat
 | .slice _ n _ => n
 | _ => 0
theorem bq.shape {w : World} {base : Nat} {v : Value} {l : List Rc} (h : bq w base v l) : ∃ a cap, v = .slice a l.length cap := by
 obtain ⟨a, cap, h, _⟩ := RS.own h
 exact ⟨a, cap, h⟩
theorem lC {w : World} {k : Nat} (hk : k = w.heap.size) (a : Int) (b : ByteArray) (v : Int) (T : TypeId) : ∀ j u, [Value.int .i64 a, .string b, .int .i64 v][j]? = some u → (w.alloc (.cells #[.int .i64 a, .string b, .int .i64 v] T)).cell? ((⟨k, 0, none⟩ : Addr).add j) = some u := by
 subst hk; exact cell_rec_new w a b v T
theorem mT (s : ByteArray) (w : World) (hs : s.size ≤ maxLen) : Calls Tryz.prog 107 #[.string s] w fun e w' => lY s w e w' := by
 obtain ⟨i0, hi, hz0, hz1, hz2⟩ := info_parts Tryz.infoRec
 unfold lY bi
 by_cases hbig : 8192 < s.size
 ·have hd : decide (8192 < (s.size : Int)) = true := by simp; omega
  simp only [hbig, if_true]
  go_enter Tryz.func107, Tryz.ntmps107
  go_wp2
  go_ret2
  exact ⟨_, rfl, World.ownsRow_nil _ _ _ _, Below.refl _ _⟩
 ·have hd : decide (8192 < (s.size : Int)) = false := by simp; omega
  simp only [hbig, if_false]
  go_enter Tryz.func107, Tryz.ntmps107
  go_wp2
  go_loopw [0, 4] (fun s' l' wr => ∃ (t : ByteArray) (acc : List Rc), s' = .string t ∧ acc.length ≤ 64 ∧ t.size ≤ 8192 ∧ Hid (dY (64 - acc.length) acc t = dY 64 [] s) ∧ bq wr w.heap.size l' acc ∧ Below w.heap.size w wr) (fun _ l' _ => 64 - lenV l')
  case atStart => exact ⟨s, [], rfl, by simp, by omega, rfl, World.ownsRow_nil _ _ _ _, Below.refl _ _⟩
  case round =>
   obtain ⟨t, acc, rfl, hacc, ht, HA, hown, hbel⟩ := hrel
   obtain ⟨a, cap, rfl⟩ := hown.shape
   by_cases h0 : t.size = 0
   ·have hd0 : decide (0 < (t.size : Int)) = false := decide_eq_false (by omega)
    have e := HA.out
    rw [allG_nil _ _ _ h0] at e
    go_wp2
    go_ret2
    rw [← e]
    exact ⟨_, rfl, hown, hbel⟩
   ·have hd0 : decide (0 < (t.size : Int)) = true := decide_eq_true (by omega)
    by_cases h64 : acc.length = 64
    ·have e := HA.out
     rw [h64, Nat.sub_self, oJ _ _ h0] at e
     go_wp2
     go_ret2
     rw [← e]
     exact ⟨_, rfl, World.ownsRow_nil _ _ _ _, hbel⟩
    ·have hT := fun W => rectake_any t W (by unfold maxLen; omega)
     obtain ⟨m, hm⟩ : ∃ m, 64 - acc.length = m + 1 := ⟨63 - acc.length, by omega⟩
     rw [hm] at HA
     obtain ⟨⟨⟨ra, rb⟩, rv⟩, j, e, hr⟩ : ∃ r j e, cz t = (r, j, e) := ⟨_, _, _, rfl⟩
     have hq := @rq t ((ra, rb), rv) j
     simp only [hr] at hT hq
     have hd1 : decide ((acc.length : Int) = 64) = false := by simp; omega
     go_wp2_with fail
     refine (hT _).mono ?_
     rintro e' w1 ⟨rfl, hb1⟩
     have hbel1 := bP (bP hbel hb1) (cI w1 (.cells #[.int .i64 ra, .string rb, .int .i64 rv] 155))
     have hown1 := (hown.below hb1).below (cI w1 (.cells #[.int .i64 ra, .string rb, .int .i64 rv] 155))
     obtain ⟨_, c0, c1, c2⟩ := BoxR.new w1 ra rb rv 155
     clear hT hbel hb1 hown
     by_cases he : e = 0
     ·subst he
      obtain ⟨q, rfl, hq1, hq2⟩ := hq rfl
      have HA' : Hid (dY m (acc ++ [((ra, rb), rv)]) (t.extract q t.size) = dY 64 [] s) := by
       have e := HA.out
       rw [oK m acc t h0 _ q hr] at e
       exact e
      have hsz := hbel1.size
      have hsz' : w.heap.size ≤ w1.heap.size + 1 := by simpa using hsz
      go_wp2_with (at_builtin; refine wpList_append_own _ rfl _ _ 97 rfl w.heap.size 155 i0 _ 3 32 Tryz.underlying97 hi hz0 hz1 hz2 rfl (by decide) _ _ _ rfl (hown1.alloc _) ⟨w1.heap.size + 1, 0, none⟩ 1 1 [.int .i64 ra, .string rb, .int .i64 rv] rfl rfl (lC (by simp) _ _ _ _) (dA _ _ _) ?c3 ?c4 ?c5 ?_)
      case c3 => unfold maxLen; omega
      case c4 => omega
      case c5 => first | omega | (simp; omega)
      intro v2 w2 hown2 hgrow2 _
      have hbel2 : Below w.heap.size w w2 := (hbel1.alloc hsz _).grown hgrow2 (by simp; omega) (own_rowZ hown1)
      have hown3 : bq w2 w.heap.size v2 (acc ++ [((ra, rb), rv)]) := bq.snoc (x := ((ra, rb), rv)) hown2 rfl
      clear hown2 hgrow2 hown1 hbel1 c0 c1 c2
      obtain ⟨a2, cap2, rfl⟩ := hown3.shape
      go_wp2
      go_roundw
      case rel => exact ⟨_, _, rfl, by simp; omega, by rw [ByteArray.size_extract]; omega, by rw [List.length_append, List.length_singleton, show 64 - (acc.length + 1) = m by omega]; exact HA', hown3, hbel2⟩
      case measure => simp [lenV]; omega
     ·have hA := HA.out
      rw [allG_bad m acc t h0 _ j e hr he] at hA
      go_wp2
      go_ret2
      rw [← hA]
      exact ⟨_, rfl, World.ownsRow_nil _ _ _ _, hbel1⟩
theorem rall_any (s : ByteArray) (w : World) (hs : s.size ≤ maxLen) : Calls Tryz.prog 67 #[.string s] w fun e w' => lY s w e w' := by
 obtain ⟨i0, hi, hz0, hz1, hz2⟩ := info_parts Tryz.infoRec
 unfold lY bi
 by_cases hbig : 8192 < s.size
 ·have hd : decide (8192 < (s.size : Int)) = true := by simp; omega
  simp only [hbig, if_true]
  go_enter Tryz.func67, Tryz.ntmps67
  go_wp2
  go_ret2
  exact ⟨_, rfl, World.ownsRow_nil _ _ _ _, Below.refl _ _⟩
 ·have hd : decide (8192 < (s.size : Int)) = false := by simp; omega
  simp only [hbig, if_false]
  go_enter Tryz.func67, Tryz.ntmps67
  go_wp2
  go_loopw [0, 4] (fun s' l' wr => ∃ (t : ByteArray) (acc : List Rc), s' = .string t ∧ acc.length ≤ 64 ∧ t.size ≤ 8192 ∧ Hid (dY (64 - acc.length) acc t = dY 64 [] s) ∧ bq wr w.heap.size l' acc ∧ Below w.heap.size w wr) (fun _ l' _ => 64 - lenV l')
  case atStart => exact ⟨s, [], rfl, by simp, by omega, rfl, World.ownsRow_nil _ _ _ _, Below.refl _ _⟩
  case round =>
   obtain ⟨t, acc, rfl, hacc, ht, HA, hown, hbel⟩ := hrel
   obtain ⟨a, cap, rfl⟩ := hown.shape
   by_cases h0 : t.size = 0
   ·have hd0 : decide (0 < (t.size : Int)) = false := decide_eq_false (by omega)
    have e := HA.out
    rw [allG_nil _ _ _ h0] at e
    go_wp2
    go_ret2
    rw [← e]
    exact ⟨_, rfl, hown, hbel⟩
   ·have hd0 : decide (0 < (t.size : Int)) = true := decide_eq_true (by omega)
    by_cases h64 : acc.length = 64
    ·have e := HA.out
     rw [h64, Nat.sub_self, oJ _ _ h0] at e
     go_wp2
     go_ret2
     rw [← e]
     exact ⟨_, rfl, World.ownsRow_nil _ _ _ _, hbel⟩
    ·have hT := fun W => rtakerec_any t W (by unfold maxLen; omega)
     obtain ⟨m, hm⟩ : ∃ m, 64 - acc.length = m + 1 := ⟨63 - acc.length, by omega⟩
     rw [hm] at HA
     obtain ⟨⟨⟨ra, rb⟩, rv⟩, j, e, hr⟩ : ∃ r j e, cz t = (r, j, e) := ⟨_, _, _, rfl⟩
     have hq := @rq t ((ra, rb), rv) j
     simp only [hr] at hT hq
     have hd1 : decide ((acc.length : Int) = 64) = false := by simp; omega
     go_wp2_with fail
     refine (hT _).mono ?_
     rintro e' w1 ⟨rfl, hb1⟩
     have hbel1 := bP (bP hbel hb1) (cI w1 (.cells #[.int .i64 ra, .string rb, .int .i64 rv] 155))
     have hown1 := (hown.below hb1).below (cI w1 (.cells #[.int .i64 ra, .string rb, .int .i64 rv] 155))
     obtain ⟨_, c0, c1, c2⟩ := BoxR.new w1 ra rb rv 155
     clear hT hbel hb1 hown
     by_cases he : e = 0
     ·subst he
      obtain ⟨q, rfl, hq1, hq2⟩ := hq rfl
      have HA' : Hid (dY m (acc ++ [((ra, rb), rv)]) (t.extract q t.size) = dY 64 [] s) := by
       have e := HA.out
       rw [oK m acc t h0 _ q hr] at e
       exact e
      have hsz := hbel1.size
      have hsz' : w.heap.size ≤ w1.heap.size + 1 := by simpa using hsz
      go_wp2_with (at_builtin; refine wpList_append_own _ rfl _ _ 97 rfl w.heap.size 155 i0 _ 3 32 Tryz.underlying97 hi hz0 hz1 hz2 rfl (by decide) _ _ _ rfl (hown1.alloc _) ⟨w1.heap.size + 1, 0, none⟩ 1 1 [.int .i64 ra, .string rb, .int .i64 rv] rfl rfl (lC (by simp) _ _ _ _) (dA _ _ _) ?c3 ?c4 ?c5 ?_)
      case c3 => unfold maxLen; omega
      case c4 => omega
      case c5 => first | omega | (simp; omega)
      intro v2 w2 hown2 hgrow2 _
      have hbel2 : Below w.heap.size w w2 := (hbel1.alloc hsz _).grown hgrow2 (by simp; omega) (own_rowZ hown1)
      have hown3 : bq w2 w.heap.size v2 (acc ++ [((ra, rb), rv)]) := bq.snoc (x := ((ra, rb), rv)) hown2 rfl
      clear hown2 hgrow2 hown1 hbel1 c0 c1 c2
      obtain ⟨a2, cap2, rfl⟩ := hown3.shape
      go_wp2
      go_roundw
      case rel => exact ⟨_, _, rfl, by simp; omega, by rw [ByteArray.size_extract]; omega, by rw [List.length_append, List.length_singleton, show 64 - (acc.length + 1) = m by omega]; exact HA', hown3, hbel2⟩
      case measure => simp [lenV]; omega
     ·have hA := HA.out
      rw [allG_bad m acc t h0 _ j e hr he] at hA
      go_wp2
      go_ret2
      rw [← hA]
      exact ⟨_, rfl, World.ownsRow_nil _ _ _ _, hbel1⟩
def gm (l : List cM) (id : Int) : Int := match bX l id with
 | none => -1
 | some k => (k : Int)
theorem kO (c : aX) (v : Value) (id : Int) (w : World) (h : nG w c v) :
  Calls Tryz.prog 54 #[cL c v, .int .i64 id] w fun e w' => e = .returned (.int .i64 (gm c.splits id)) ∧ Below w.heap.size w w' := by
 have hlen := h.len
 obtain ⟨va, vc, rfl, hsh⟩ := h.ps
 clear h
 obtain ⟨W0, hW0⟩ : ∃ W0 : World, W0 = w.alloc (.cells #[.int .i64 c.sites, .slice va c.splits.length vc, .int .i64 c.again, .int .i64 c.over] 24) := ⟨_, rfl⟩
 have hb0 : Below w.heap.size w W0 := by rw [hW0]; exact (Below.refl _ _).alloc (Nat.le_refl _) _
 have B0 : dg W0 w.heap.size (.int .i64 c.sites) (.slice va c.splits.length vc) (.int .i64 c.again) (.int .i64 c.over) := by rw [hW0]; exact dg.new w _ _ _ _
 obtain ⟨r0, r1, r2, r3⟩ := B0.cells
 have HW := ah hW0.symm
 have HB0 := ah hb0
 clear hW0 hb0 B0
 go_enter Tryz.func54, Tryz.ntmps54
 go_wp2
 rw [HW.out]
 go_loop [5] (fun i => ∃ k : Nat, k ≤ c.splits.length ∧ i = .int .i64 k ∧ Hid (∀ x ∈ c.splits.take k, x.1 ≠ id)) (fun i => c.splits.length - (intOf i).toNat)
 case atStart => exact ⟨0, by omega, rfl, fun x hx => by simp at hx⟩
 case round =>
  obtain ⟨k, hk, rfl, HO⟩ := hrel
  by_cases hlt : k < c.splits.length
  ·obtain ⟨⟨si, st, sl⟩, hy⟩ := cA hlt
   rcases hsh with hnil | ⟨b, off, rfl, hb, hat⟩
   ·rw [hnil] at hlt; simp at hlt
   obtain ⟨c0, -⟩ := (hat.below HB0.out hb) k _ hy
   simp only at c0
   have hki0 : (0 : Int) ≤ (k : Int) := by omega
   have hki : (k : Int) < (c.splits.length : Int) := by omega
   by_cases he : si = id
   ·have HF := ah (show gm c.splits id = (k : Int) from by unfold gm; rw [findC_at hy he HO.out])
    have hbe : (si == id) = true := by simpa using he
    clear hat hy HO he
    go_wp2
    go_ret
    exact ⟨by rw [HF.out]; rfl, HB0.out⟩
   ·have hbe : (si == id) = false := by simpa using he
    have HO2 := ah (show ∀ x ∈ c.splits.take (k + 1), x.1 ≠ id from fun x hx => by
     rw [List.take_add_one, hy] at hx
     rcases List.mem_append.1 hx with hx | hx
     ·exact HO.out x hx
     ·simp at hx; subst hx; exact he)
    clear hat hy HO
    go_wp2
    go_round
    case rel => exact ⟨k + 1, by omega, by go_num, HO2.out⟩
    case measure => simp [intOf]; omega
  ·have HF := ah (show gm c.splits id = -1 from by unfold gm; rw [mM (fun x hx => HO.out x (by rw [List.take_of_length_le (by omega)]; exact hx))])
   have hlt' : ¬ (k : Int) < (c.splits.length : Int) := by omega
   go_wp2
   go_ret
   exact ⟨by rw [HF.out]; rfl, HB0.out⟩
theorem mU (id : Int) (t : ByteArray) (v : Value) (w : World) (ht : t.size ≤ 140737488351232) :
  Calls Tryz.prog 53 #[.agg #[.int .i64 id, .string t, v]] w fun e w' => (∃ v', e = .returned v' ∧ bq w' w.heap.size v' (bi t).1) ∧ Below w.heap.size w w' := by
 obtain ⟨W0, hW0⟩ : ∃ W0 : World, W0 = w.alloc (.cells #[.int .i64 id, .string t, v] 93) := ⟨_, rfl⟩
 have hb0 : Below w.heap.size w W0 := by rw [hW0]; exact (Below.refl _ _).alloc (Nat.le_refl _) _
 have HW := ah hW0.symm
 have HB0 := ah hb0
 have HAL := ah (rall_any t W0 (by unfold maxLen; omega))
 clear hW0 hb0
 go_enter Tryz.func53, Tryz.ntmps53
 go_wp2_with (first | (go_at_call 67; rw [HW.out]; refine HAL.out.mono ?_; rintro e W1 ⟨v1, rfl, ho1, hb1⟩; have HO1 := ah ho1; obtain ⟨a1, k1, rfl⟩ := ho1.shape; clear ho1))
 go_ret
 refine ⟨⟨_, rfl, ?_⟩, bJ HB0.out hb1⟩
 refine ⟨HO1.out.1, ?_⟩
 rcases HO1.out.2 with q | ⟨g, cap, cur, q1, q2, q3⟩
 ·exact .inl q
 ·exact .inr ⟨g, cap, cur, q1, by have := HB0.out.size; omega, q3⟩
theorem jd (v u : Value) (l : List Int) (w : World) (h : NS w v l) (h' : NS w u l) (hl : l.length ≤ 17592186043904) :
  Calls Tryz.prog 23 #[v, u] w fun e w' => e = .returned (.bool true) ∧ aE w w' := by
 obtain ⟨a, cap, rfl, h⟩ := h
 obtain ⟨a', cap', rfl, h'⟩ := h'
 go_enter Tryz.func23, Tryz.ntmps23
 go_wp2
 go_loopw [5] (fun i wr => ∃ k : Nat, k ≤ l.length ∧ i = .int .i64 k ∧ aE w wr) (fun i _ => l.length - (intOf i).toNat)
 case atStart => exact ⟨0, by omega, rfl, aE.refl _⟩
 case round =>
  obtain ⟨k, hk, rfl, hD⟩ := hrel
  by_cases hlt : k < l.length
  ·obtain ⟨y, hy⟩ := cA hlt
   rcases h with rfl | ⟨b, off, rfl, hb, hat⟩
   ·simp at hlt
   rcases h' with rfl | ⟨b', off', rfl, hb', hat'⟩
   ·simp at hlt
   have c0 := hat.below (hD.below w.heap.size) hb k y hy
   have d0 := hat'.below (hD.below w.heap.size) hb' k y hy
   clear hat hat' hy
   have hk0 : (0 : Int) ≤ k := by omega
   have hkl : (k : Int) < l.length := by omega
   go_wp2
   go_quiet (fail)
   go_wp2
   go_roundw
   case rel => exact ⟨k + 1, by omega, by go_num, hD.step _⟩
   case measure => simp [intOf]; omega
  ·have hlt' : ¬ (k : Int) < l.length := by omega
   go_wp2
   go_ret
   exact ⟨rfl, hD⟩
theorem eqsplit_any (id : Int) (t : ByteArray) (l : List Int) (a a' : Option Addr) (cap cap' : Nat) (w : World) (h : NS w (.slice a l.length cap) l) (h' : NS w (.slice a' l.length cap') l) (hl : l.length ≤ 17592186043904) :
  Calls Tryz.prog 111 #[.agg #[.int .i64 id, .string t, .slice a l.length cap], .agg #[.int .i64 id, .string t, .slice a' l.length cap']] w fun e w' => e = .returned (.bool true) ∧ Below w.heap.size w w' := by
 obtain ⟨W0, hW0⟩ : ∃ W0 : World, W0 = (w.alloc (.cells #[.int .i64 id, .string t, .slice a l.length cap] 93)).alloc (.cells #[.int .i64 id, .string t, .slice a' l.length cap'] 93) := ⟨_, rfl⟩
 have st : ∀ (W : World) (o : Obj), Below W.heap.size W (W.alloc o) := fun W o => (Below.refl _ _).alloc (Nat.le_refl _) _
 have hb0 : Below w.heap.size w W0 := by rw [hW0]; exact bJ (st _ _) (st _ _)
 have HE := ah (jd _ _ l W0 (h.below hb0) (h'.below hb0) hl)
 have HW := ah hW0.symm
 have HB0 := ah hb0
 clear hW0 hb0 h h' st
 go_enter Tryz.func111, Tryz.ntmps111
 go_wp2_with (first | (go_at_call 23; rw [HW.out]; refine HE.out.mono ?_; rintro e W1 ⟨rfl, hd1⟩))
 go_ret
 exact ⟨rfl, HB0.out.trans (hd1.below _)⟩
end Go.Proofs.YtclcgakfmcofaaaGreatDoor
namespace Go.Proofs.YtclcgakfmcofaaaGreatDoor
open Go.ChangeShapes Go.WideShapes Go.ChangeAt Go.RowKit Go.Deep
open Go.ChangeMaps (open_string shut_string)
theorem Tryz.cells3Z : Tryz.prog.cellsOf 3 = 1 := by kernel_rfl
theorem Tryz.bytes3 : Tryz.prog.bytesOf 3 = 8 := by kernel_rfl
theorem Tryz.cellsInts : Tryz.prog.cellsOf 25 = 1 := by kernel_rfl
theorem Tryz.cellsSplit : Tryz.prog.cellsOf 93 = 3 := by kernel_rfl
theorem Tryz.bytesSplit : Tryz.prog.bytesOf 93 = 48 := by kernel_rfl
theorem Tryz.cellsSplits : Tryz.prog.cellsOf 22 = 1 := by kernel_rfl
theorem Tryz.cellsCfg : Tryz.prog.cellsOf 24 = 4 := by kernel_rfl
theorem Tryz.cellsAsk12 : Tryz.prog.cellsOf 27 = 5 := by kernel_rfl
theorem kP {H : Type} {enc : TypeId × Value → H} {W : World} {fuel : Nat} {v : Value} {d : DataW H × List MemPlace} (hf : DataW.trod enc Tryz.prog W 0 (fun _ => true) true fuel 25 [v] = some d) (hlg : fb Tryz.prog 25 d.1) :
  ∃ (l : List Int) (a : Option Addr) (cap : Nat), v = .slice a l.length cap ∧ (l.length ≤ cap ∧ cap ≤ 9223372036854775807) ∧ l.length ≤ 17592186043904 ∧ (∀ x ∈ l, -9223372036854775808 ≤ x ∧ x ≤ 9223372036854775807) ∧ NS W (.slice a l.length cap) l := by
 rcases open_slice Tryz.underlying25 hf with ⟨hcs, _⟩ | ⟨x, len, c, m, n, D, Pl, hcs, _, hl, hm, hmm, hx, hel⟩
 ·simp at hcs
  subst hcs
  exact ⟨[], none, 0, rfl, by simp, Nat.zero_le _, fun x hx => by simp at hx, none, 0, rfl, .inl rfl⟩
 ·simp at hcs
  subst hcs
  simp at hmm
  subst hmm
  subst hx
  obtain ⟨hlg1, hlg2⟩ := gI Tryz.underlying25 hlg
  rw [Tryz.bytes3] at hlg1
  simp only [List.length_map, List.length_range] at hlg1
  unfold reachBytes at hlg1
  by_cases h0 : len = 0
  ·subst h0
   exact ⟨[], _, _, rfl, ⟨Nat.zero_le _, by unfold maxLen at hm; omega⟩, Nat.zero_le _, fun x hx => by simp at hx, _, _, rfl, .inl rfl⟩
  obtain ⟨b, off, spot⟩ := x
  rw [Tryz.cells3Z] at hel
  have first := hel 0 (by omega)
  obtain ⟨cs, hc, _⟩ := first
  obtain ⟨_, hcl, hcell⟩ := World.cells?_some hc
  have hspot : spot = none := by
   have e := hcell 0 (by omega)
   match cs, hcl with
   | [v0], _ => simpa [Addr.add] using World.cell?_spot e
  subst hspot
  have hb : b < W.heap.size := by simpa [add_plain] using World.cells?_block hc (by decide)
  have hall : ∀ i, i < len → ∃ y : Int, (-9223372036854775808 ≤ y ∧ y ≤ 9223372036854775807) ∧ W.cell? ⟨b, off + i, none⟩ = some (.int .i64 y) := by
   intro i hi
   obtain ⟨cs, hc, ht⟩ := hel i (by omega)
   obtain ⟨_, hcl, hcell⟩ := World.cells?_some hc
   match cs, hcl with
   | [v0], _ =>
    obtain ⟨n0, e0, _, w0⟩ := DataW.trod_int Tryz.underlying3 ht
    simp at e0
    subst e0
    have a0 := hcell 0 (by omega)
    rw [add_add, add_plain] at a0
    exact ⟨n0, bW w0, by simpa using a0⟩
  let f : Nat → Int := fun i => if h : i < len then (hall i h).choose else 0
  have hf' : ∀ i (h : i < len), f i = (hall i h).choose := fun i h => by simp [f, h]
  refine ⟨(List.range len).map f, _, _, by rw [List.length_map, List.length_range], ⟨by simp; omega, by unfold maxLen at hm; omega⟩, by simp; omega, ?_, _, _, rfl, .inr ⟨b, off, rfl, hb, ?_⟩⟩
  ·intro x hx
   obtain ⟨i, hi, rfl⟩ := List.mem_map.1 hx
   rw [List.mem_range] at hi
   rw [hf' i hi]
   exact (hall i hi).choose_spec.1
  ·intro i x hx
   have hi : i < len := by have := (List.getElem?_eq_some_iff.1 hx).1; simpa using this
   simp [hi] at hx
   subst hx
   rw [hf' i hi]
   exact (hall i hi).choose_spec.2
theorem open_splits {H : Type} {enc : TypeId × Value → H} {W : World} {fuel : Nat} {v : Value} {d : DataW H × List MemPlace} (hf : DataW.trod enc Tryz.prog W 0 (fun _ => true) true fuel 22 [v] = some d) (hlg : fb Tryz.prog 22 d.1) :
  ∃ (l : List cM) (a : Option Addr) (cap : Nat), v = .slice a l.length cap ∧ (l.length ≤ cap ∧ cap ≤ 9223372036854775807) ∧ l.length ≤ 17592186043904 ∧ (∀ s ∈ l, WfSp s) ∧ PS W (.slice a l.length cap) l := by
 rcases open_slice Tryz.underlying22 hf with ⟨hcs, _⟩ | ⟨x, len, c, m, n, D, Pl, hcs, _, hl, hm, hmm, hx, hel⟩
 ·simp at hcs
  subst hcs
  exact ⟨[], none, 0, rfl, by simp, Nat.zero_le _, fun x hx => by simp at hx, none, 0, rfl, .inl rfl⟩
 ·simp at hcs
  subst hcs
  simp at hmm
  subst hmm
  subst hx
  obtain ⟨hlg1, hlg2⟩ := gI Tryz.underlying22 hlg
  rw [Tryz.bytesSplit] at hlg1
  simp only [List.length_map, List.length_range] at hlg1
  unfold reachBytes at hlg1
  have hlg3 : ∀ i, i < len → fb Tryz.prog 93 (D i) := fun i hi => hlg2 _ (List.mem_map.2 ⟨i, List.mem_range.2 hi, rfl⟩)
  clear hlg2
  by_cases h0 : len = 0
  ·subst h0
   exact ⟨[], _, _, rfl, ⟨Nat.zero_le _, by unfold maxLen at hm; omega⟩, Nat.zero_le _, fun x hx => by simp at hx, _, _, rfl, .inl rfl⟩
  obtain ⟨b, off, spot⟩ := x
  rw [Tryz.cellsSplit] at hel
  have first := hel 0 (by omega)
  obtain ⟨cs, hc, _⟩ := first
  obtain ⟨_, hcl, hcell⟩ := World.cells?_some hc
  have hspot : spot = none := by
   have e := hcell 0 (by omega)
   match cs, hcl with
   | [v0, v1, v2], _ => simpa [Addr.add] using World.cell?_spot e
  subst hspot
  have hb : b < W.heap.size := by simpa [add_plain] using World.cells?_block hc (by decide)
  have hall : ∀ i, i < len → ∃ y : cM, WfSp y ∧ SpAt W b (off + i * 3) y := by
   intro i hi
   obtain ⟨cs, hc, ht⟩ := hel i (by omega)
   obtain ⟨_, hcl, hcell⟩ := World.cells?_some hc
   obtain ⟨xs, k, hk, hD, _, hxl, hfld⟩ := DataW.trod_struct Tryz.underlying93 ht
   have hg := hlg3 i hi
   injection hD with hD _
   rw [hD] at hg
   match cs, hcl, xs, hxl with
   | [v0, v1, v2], _, [y0, y1, y2], _ =>
    have g0 := hfld 0 _ rfl
    have g1 := hfld 1 _ rfl
    have g2 := hfld 2 _ rfl
    simp [Tryz.cells3Z, Tryz.cells9Z, Tryz.cellsInts] at g0 g1 g2
    have hg1 := cD Tryz.underlying93 hg (j := 1) (u := 9) (d := y1.1) rfl rfl
    have hg2 := cD Tryz.underlying93 hg (j := 2) (u := 25) (d := y2.1) rfl rfl
    obtain ⟨n0, e0, _, w0⟩ := DataW.trod_int Tryz.underlying3 g0
    obtain ⟨s1, e1, x1, _⟩ := DataW.trod_string Tryz.underlying9 g1
    rw [x1] at hg1
    have w1 := fU hg1
    unfold reachBytes at w1
    obtain ⟨l, a, cap', e2, ⟨hcc, _⟩, hll, hwl, hns⟩ := kP g2 hg2
    simp at e0 e1
    subst e0 e1 e2
    have a0 := hcell 0 (by omega)
    have a1 := hcell 1 (by omega)
    have a2 := hcell 2 (by omega)
    rw [add_add, add_plain] at a0 a1 a2
    exact ⟨(n0, s1, l), ⟨bW w0, w1, hll, hwl⟩, by simpa using a0, by simpa [Nat.add_assoc] using a1, a, cap', by simpa [Nat.add_assoc] using a2, hns, hcc⟩
  let g : Nat → cM := fun i => if h : i < len then (hall i h).choose else s0
  have hg' : ∀ i (h : i < len), g i = (hall i h).choose := fun i h => by simp [g, h]
  refine ⟨(List.range len).map g, _, _, by rw [List.length_map, List.length_range], ⟨by simp; omega, by unfold maxLen at hm; omega⟩, by simp; omega, ?_, _, _, rfl, .inr ⟨b, off, rfl, hb, ?_⟩⟩
  ·intro x hx
   obtain ⟨i, hi, rfl⟩ := List.mem_map.1 hx
   rw [List.mem_range] at hi
   rw [hg' i hi]
   exact (hall i hi).choose_spec.1
  ·intro i x hx
   have hi : i < len := by have := (List.getElem?_eq_some_iff.1 hx).1; simpa using this
   simp [hi] at hx
   subst hx
   rw [hg' i hi]
   exact (hall i hi).choose_spec.2
structure In12 (W : World) (c : aX) (vp vl : Value) (l : List Int) : Prop where
 cfg : nG W c vp
 cap : ∃ a k, vp = .slice a c.splits.length k ∧ c.splits.length ≤ k ∧ k ≤ 9223372036854775807
 ns : NS W vl l
 len : l.length ≤ 17592186043904
 num : ∀ x ∈ l, -9223372036854775808 ≤ x ∧ x ≤ 9223372036854775807
 lcap : ∃ a k, vl = .slice a l.length k ∧ l.length ≤ k ∧ k ≤ 9223372036854775807
theorem In12.below {W W' : World} {c : aX} {vp vl : Value} {l : List Int} (h : In12 W c vp vl l) (hb : Below W.heap.size W W') : In12 W' c vp vl l := ⟨h.cfg.below hb, h.cap, h.ns.below hb, h.len, h.num, h.lcap⟩
abbrev askV12 (c : aX) (vp vl : Value) : Value := .agg #[.int .i64 c.sites, vp, .int .i64 c.again, .int .i64 c.over, vl]
end Go.Proofs.YtclcgakfmcofaaaGreatDoor
namespace Go.Proofs.YtclcgakfmcofaaaGreatDoor
open Go.RowKit
abbrev askO12 (c : aX) (vp vl : Value) : Obj := .cells #[.int .i64 c.sites, vp, .int .i64 c.again, .int .i64 c.over, vl] 27
def kQ (W : World) (b : Nat) (c : aX) (vp vl : Value) : Prop := W.heap[b]? = some (.cells #[.int .i64 c.sites, vp, .int .i64 c.again, .int .i64 c.over, vl] 27 (0, 0))
theorem kQ.new (W : World) (c : aX) (vp vl : Value) : kQ (W.alloc (askO12 c vp vl)) W.heap.size c vp vl := heap_alloc_new W _
theorem kQ.lt {W : World} {b : Nat} {c : aX} {vp vl : Value} (h : kQ W b c vp vl) : b < W.heap.size := (Array.getElem?_eq_some_iff.1 h).1
theorem kQ.below {W W' : World} {b : Nat} {c : aX} {vp vl : Value} (h : kQ W b c vp vl) (hb : Below W.heap.size W W') : kQ W' b c vp vl := by unfold kQ; rw [hb.block b h.lt]; exact h
theorem kQ.cells {W : World} {b : Nat} {c : aX} {vp vl : Value} (h : kQ W b c vp vl) : W.cell? ⟨b, 0, none⟩ = some (.int .i64 c.sites) ∧ W.cell? ⟨b, 1, none⟩ = some vp ∧ W.cell? ⟨b, 2, none⟩ = some (.int .i64 c.again) ∧ W.cell? ⟨b, 3, none⟩ = some (.int .i64 c.over) ∧ W.cell? ⟨b, 4, none⟩ = some vl := by
 unfold kQ at h
 refine ⟨?_, ?_, ?_, ?_, ?_⟩ <;> simp [World.cell?, h]
theorem kS {W : World} {base : Nat} {v u : Value} {l m : List Int} (ty : TypeId) (hown : aM W base v l) (hns : NS W u m) (hl : l.length + m.length ≤ 17592186044000) (hb : base ≤ W.heap.size) :
  ∃ v' W', (Builtin.append_ #[25, 25] ty #[v, u]).run Tryz.prog W = .ok v' W' ∧ aM W' base v' (l ++ m) ∧ W.grownBy W' v.ownBlock ∧ (v'.ownBlock = v.ownBlock ∨ v'.ownBlock = some W.heap.size) := by
 obtain ⟨i0, hi, hz0, hz1, hz2⟩ := info_parts Tryz.info3
 obtain ⟨a, cap, rfl, h⟩ := hns
 have go : ∀ (ad : Addr) (news : List Value), news = m.map (Value.int .i64) → (∀ j u, news[j]? = some u → W.cell? (ad.add j) = some u) → ∃ v' W', (Builtin.append_ #[25, 25] ty #[v, .slice (some ad) m.length cap]).run Tryz.prog W = .ok v' W' ∧ aM W' base v' (l ++ m) ∧ W.grownBy W' v.ownBlock ∧ (v'.ownBlock = v.ownBlock ∨ v'.ownBlock = some W.heap.size) := by
  intro ad news hn hc
  obtain ⟨v', w', hr, h2, h3, _, h5⟩ := run_append_own_at (P := Tryz.prog) W base 25 ty 3 i0 _ 1 8 Tryz.underlying25 hi hz0 hz1 hz2 rfl (by decide) v l.length (l.map (Value.int .i64)) hown ad m.length cap news (by subst hn; simp) hc (by subst hn; intro u hu; obtain ⟨x, _, rfl⟩ := List.mem_map.1 hu; rfl) (by unfold maxLen; omega) (by omega) hb
  refine ⟨v', w', hr, ?_, h3, h5⟩
  subst hn
  unfold aM
  rw [List.map_append, List.length_append]
  exact h2
 rcases h with rfl | ⟨b, off, rfl, hb, hat⟩
 ·cases a with
  | none =>
   refine ⟨v, W, ?_, by rw [List.append_nil]; exact hown, World.grownBy.refl _ _, .inl rfl⟩
   rcases hown.2 with ⟨rfl, h0⟩ | ⟨g, cap', cur, rfl, _, _, hnc, _⟩
   ·simp [Builtin.append_, run_underlying Tryz.underlying25, sizeOf, typeInfo, hi, Builtin.lenOf, Builtin.firstCells]
   ·simp [Builtin.append_, run_underlying Tryz.underlying25, sizeOf, typeInfo, hi, Builtin.lenOf, Builtin.firstCells, hnc, storeCells]
  | some ad => exact go ad [] rfl (fun j u hj => by simp at hj)
 ·refine go ⟨b, off, none⟩ _ rfl fun j u hj => ?_
  rw [Addr.add_lit]
  rw [List.getElem?_map] at hj
  cases hm : m[j]? with
  | none => rw [hm] at hj; simp at hj
  | some x => rw [hm] at hj; simp at hj; subst hj; exact hat j x hm
theorem eW {P : Program} (w : World) {ops : Array Oper} {rest : List Oper} {o : Oper} {a : Act} {Q : Exit → Act → World → Prop} (hgd : o.guard = none) (s x : Operand) (t : TypeId)
  (ho : o.op = .call { callee := .builtin .append, args := #[s, x], argTypes := #[t, t] }) (v u v' : Value) (w' : World) (hs : a.eval s = v) (hx : a.eval x = u)
  (hr : (Builtin.append_ #[t, t] o.type #[v, u]).run P w = .ok v' w') (h : wpList P ops Q rest (a.put o.dst v') w') : wpList P ops Q (o :: rest) a w := by
 refine wpList_plain hgd fun K hK => ?_
 unfold Oper.wp execOp
 simp only [ho, resolve, invoke, builtin, Sem.run_bind, Sem.run_pure, Result.andThen_ok, List.map_toArray, List.map_cons, List.map_nil, hs, hx, hr]
 exact hK _ _ h
theorem own_rowN {w : World} {base n : Nat} {e : TypeId} {size : Nat} {v : Value} {xs : List Value} (h : w.ownsRow base e size v n xs) : ∀ k, v.ownBlock = some k → base ≤ k := fun k hk => (h.lt k hk).1
theorem spB_id {n : Int} {i : Int} {t : ByteArray} {l : List Int} (h : ¬ (1 ≤ i ∧ i ≤ 1048576)) : spB n (i, t, l) = false := by
 cases e : spB n (i, t, l) with
 | false => rfl
 | true => exact absurd (kL e).1 h
theorem spB_txt {n : Int} {i : Int} {t : ByteArray} {l : List Int} (h : ¬ (bi t).2 = 0) : spB n (i, t, l) = false := by
 cases e : spB n (i, t, l) with
 | false => rfl
 | true => exact absurd (kL e).2.1 h
theorem spB_len {n : Int} {i : Int} {t : ByteArray} {l : List Int} (h : l.length = 0) : spB n (i, t, l) = false := by
 cases e : spB n (i, t, l) with
 | false => rfl
 | true => have := (kL e).2.2.1; simp only at this; omega
theorem spB_ris {n : Int} {i : Int} {t : ByteArray} {l : List Int} (h : cr 1 n l = false) : spB n (i, t, l) = false := by
 cases e : spB n (i, t, l) with
 | false => rfl
 | true => have := (kL e).2.2.2; simp only at this; rw [h] at this; cases this
theorem spB_mk {n : Int} {i : Int} {t : ByteArray} {l : List Int} (h1 : 1 ≤ i ∧ i ≤ 1048576) (h2 : (bi t).2 = 0) (h3 : 0 < l.length) (h4 : cr 1 n l = true) : spB n (i, t, l) = true := by
 unfold spB
 simp only
 rw [decide_eq_true h1, decide_eq_true h2, decide_eq_true h3, h4]
 rfl
theorem rconfig_any (c : aX) (v : Value) (w : World) (h : nG w c v) :
  Calls Tryz.prog 26 #[cL c v] w fun e w' => e = .returned (.bool (cU c)) ∧ Below w.heap.size w w' := by
 have HWF := ah h.wf
 have hs1 := h.sites
 have ha1 := h.again
 have ho1 := h.over
 obtain ⟨va, vc, rfl, hsh⟩ := h.ps
 clear h
 by_cases h1 : 1 ≤ c.sites
 ·have d0 : decide (c.sites < 1) = false := decide_eq_false (by omega)
  by_cases h2 : c.sites ≤ 3
  ·have d1 : decide (3 < c.sites) = false := decide_eq_false (by omega)
   by_cases h3 : c.splits.length ≤ 6
   ·have d2 : decide ((6 : Int) < (c.splits.length : Int)) = false := decide_eq_false (by omega)
    by_cases h4 : 1 ≤ c.again
    ·have d3 : decide (c.again < 1) = false := decide_eq_false (by omega)
     by_cases h5 : c.again ≤ 16
     ·have d4 : decide (16 < c.again) = false := decide_eq_false (by omega)
      by_cases h6 : 16 ≤ c.over
      ·have d5 : decide (c.over < 16) = false := decide_eq_false (by omega)
       by_cases h7 : c.over ≤ 64
       ·have d6 : decide (64 < c.over) = false := decide_eq_false (by omega)
        by_cases h8 : 2 * c.again ≤ c.over
        ·have d7 : decide (c.over < 2 * c.again) = false := decide_eq_false (by omega)
         have hhead := ah (headB_mk (c := c) ⟨⟨h1, h2⟩, h3, ⟨h4, h5⟩, ⟨h6, h7⟩, h8⟩)
         obtain ⟨W0, hW0⟩ : ∃ W0 : World, W0 = w.alloc (.cells #[.int .i64 c.sites, .slice va c.splits.length vc, .int .i64 c.again, .int .i64 c.over] 24) := ⟨_, rfl⟩
         have hb0 : Below w.heap.size w W0 := by rw [hW0]; exact (Below.refl _ _).alloc (Nat.le_refl _) _
         have B0 : dg W0 w.heap.size (.int .i64 c.sites) (.slice va c.splits.length vc) (.int .i64 c.again) (.int .i64 c.over) := by rw [hW0]; exact dg.new w _ _ _ _
         have HW := ah hW0.symm
         have HB0 := ah hb0
         have HF0 := ah B0
         clear hW0 hb0 B0
         go_enter Tryz.func26, Tryz.ntmps26
         go_wp2
         rw [HW.out]
         clear d0 d1 d2 d3 d4 d5 d6 d7 h1 h2 h4 h5 h6 h7 h8
         go_loopw [3] (fun i wr => ∃ k : Nat, k ≤ c.splits.length ∧ i = .int .i64 k ∧ Hid (jU c k) ∧ Below W0.heap.size W0 wr) (fun i _ => c.splits.length - (intOf i).toNat)
         case atStart => exact ⟨0, by omega, rfl, jU.start c, Below.refl _ _⟩
         case round =>
          rename World => w0
          obtain ⟨k, hk, rfl, HO, hbel⟩ := hrel
          obtain ⟨r0, r1, r2, r3⟩ := (HF0.out.below hbel).cells
          have hbw := bJ HB0.out hbel
          by_cases hlt : k < c.splits.length
          ·obtain ⟨⟨si, st, sl⟩, hy⟩ := cA hlt
           have hwf := HWF.out _ (List.mem_of_getElem? hy)
           have htx : st.size ≤ 140737488351232 := hwf.txt
           have hsl : sl.length ≤ 17592186043904 := hwf.len
           rcases hsh with hnil | ⟨b, off, rfl, hb, hat⟩
           ·rw [hnil] at hlt; simp at hlt
           have hat0 := hat.below hbw hb
           have hblt : b < w0.heap.size := Nat.lt_of_lt_of_le hb hbw.size
           obtain ⟨c0, c1, sa, sc, c2, ns, hcap⟩ := hat0 k _ hy
           simp only at c0 c1 c2 ns hcap
           obtain ⟨cs, hcs⟩ : ∃ cs, cs = c.sites := ⟨_, rfl⟩
           have HCS := ah hcs.symm
           have hki0 : (0 : Int) ≤ (k : Int) := by omega
           have hki : (k : Int) < (c.splits.length : Int) := by omega
           obtain ⟨Wa, hWa⟩ : ∃ Wa : World, Wa = w0.alloc (.cells #[.int .i64 si, .string st, .slice sa sl.length sc] 93) := ⟨_, rfl⟩
           have hba : Below w0.heap.size w0 Wa := by rw [hWa]; exact (Below.refl _ _).alloc (Nat.le_refl _) _
           have BP : ct Wa w0.heap.size (.int .i64 si) (.string st) (.slice sa sl.length sc) := by rw [hWa]; exact ct.new w0 _ _ _
           obtain ⟨x0, x1, x2⟩ := BP.cells
           have HA := ah hWa.symm
           have HAL := ah (fun W => (rall_any st W (by unfold maxLen; omega)).mono (R' := fun e w' => (∃ v', e = .returned (.tuple #[v', .int .i64 (bi st).2]) ∧ ∃ a n k, v' = .slice a n k) ∧ Below W.heap.size W w') (fun e w' ⟨v', q1, q2, q3⟩ => by
            obtain ⟨a, k, e2⟩ := q2.shape
            exact ⟨⟨v', q1, a, _, k, e2⟩, q3⟩))
           have HRIS := ah (fun (W : World) (hn : NS W (.slice sa sl.length sc) sl) => lB 1 c.sites _ sl W hn hsl)
           rw [← hcs] at HRIS r0
           have HB := ah ((bJ HB0.out hbel).trans (hba.mono hbw.size) |> fun _ => bJ hbel hba)
           by_cases hz : k = 0
           ·subst hz
            have hd1 : decide ((0 : Int) < ((0 : Nat) : Int)) = false := by decide
            simp only [Nat.zero_mul, Nat.add_zero] at c0 c1 c2
            have HFA := ah (show ∀ W1, Below Wa.heap.size Wa W1 → W1.cell? ⟨w0.heap.size, 0, none⟩ = some (.int .i64 si) ∧ W1.cell? ⟨w0.heap.size, 1, none⟩ = some (.string st) ∧ W1.cell? ⟨w0.heap.size, 2, none⟩ = some (.slice sa sl.length sc) ∧ W1.cell? ⟨w.heap.size, 0, none⟩ = some (.int .i64 cs) ∧ W1.cell? ⟨w.heap.size, 1, none⟩ = some (.slice (some ⟨b, off, none⟩) c.splits.length vc) ∧ NS W1 (.slice sa sl.length sc) sl ∧ True from fun W1 h1 => by
             obtain ⟨y0, y1, y2⟩ := (BP.below h1).cells
             obtain ⟨z0, z1, -⟩ := (HF0.out.below (bJ hbel (bJ hba h1))).cells
             exact ⟨y0, y1, y2, by rw [hcs]; exact z0, z1, (ns.below hba).below h1, trivial⟩)
            by_cases hid : 1 ≤ si ∧ si ≤ 1048576
            ·have HID := ah (fun W => gR si W)
             rw [decide_eq_true hid] at HID
             by_cases he : (bi st).2 = 0
             ·have hbe : ((bi st).2 != 0) = false := by rw [he]; rfl
              rw [he] at HAL
              by_cases hs0 : sl.length = 0
              ·have HF := ah (dT (c := c) hy (spB_len hs0))
               have hl0 : ((sl.length : Int) == 0) = true := by rw [hs0]; rfl
               clear hs0
               clear hcs hWa hba BP hat hat0 ns hcap hwf hbel hbw HO hy
               go_wp2_with (first | (go_at_call 67; rw [HA.out]; refine (HAL.out _).mono ?_; rintro e W1 ⟨⟨v1, rfl, a1, n1, k1, rfl⟩, hb1⟩; obtain ⟨d0, d1, d2, f0, f1, nsS, -⟩ := HFA.out W1 hb1; have HRI := ah (fun q => HRIS.out (W1.drewN q) (nsS.below (aE.below ⟨q, rfl⟩ _)))))
               go_quiet (first
                | (go_at_call 36; exact Calls.quiet_of_same (HID.out _))
                | (go_at_call 28; exact Calls.quiet_of (HRI.out _)))
               go_wp2
               go_ret
               exact ⟨by rw [HF.out]; rfl, (bJ HB0.out (bJ HB.out hb1)).trans (aE.below ⟨_, rfl⟩ _)⟩
              ·have hl0 : ((sl.length : Int) == 0) = false := beq_eq_false_iff_ne.2 (by omega)
               cases hr : cr 1 cs sl with
               | false =>
                have HF := ah (dT (c := c) hy (spB_ris (by rw [HCS.out]; exact hr)))
                rw [hr] at HRIS
                clear hcs hWa hba BP hat hat0 ns hcap hwf hbel hbw HO hy
                go_wp2_with (first | (go_at_call 67; rw [HA.out]; refine (HAL.out _).mono ?_; rintro e W1 ⟨⟨v1, rfl, a1, n1, k1, rfl⟩, hb1⟩; obtain ⟨d0, d1, d2, f0, f1, nsS, -⟩ := HFA.out W1 hb1; have HRI := ah (fun q => HRIS.out (W1.drewN q) (nsS.below (aE.below ⟨q, rfl⟩ _)))))
                go_quiet (first
                 | (go_at_call 36; exact Calls.quiet_of_same (HID.out _))
                 | (go_at_call 28; exact Calls.quiet_of (HRI.out _)))
                go_wp2
                go_ret
                exact ⟨by rw [HF.out]; rfl, (bJ HB0.out (bJ HB.out hb1)).trans (aE.below ⟨_, rfl⟩ _)⟩
               | true =>
                have HO2 := ah (HO.out.step hy (spB_mk hid he (by omega) (by rw [HCS.out]; exact hr)) (fun m y hm => by omega))
                rw [hr] at HRIS
                clear hcs hWa hba BP hat hat0 ns hcap hwf hbel hbw HO hy
                go_wp2_with (first | (go_at_call 67; rw [HA.out]; refine (HAL.out _).mono ?_; rintro e W1 ⟨⟨v1, rfl, a1, n1, k1, rfl⟩, hb1⟩; obtain ⟨d0, d1, d2, f0, f1, nsS, -⟩ := HFA.out W1 hb1; have HRI := ah (fun q => HRIS.out (W1.drewN q) (nsS.below (aE.below ⟨q, rfl⟩ _)))))
                go_quiet (first
                 | (go_at_call 36; exact Calls.quiet_of_same (HID.out _))
                 | (go_at_call 28; exact Calls.quiet_of (HRI.out _)))
                go_wp2
                go_roundw
                case rel => exact ⟨1, by omega, by go_num, HO2.out, (bJ HB.out hb1).trans (aE.below ⟨_, rfl⟩ _)⟩
                case measure => simp [intOf]; omega
             ·have hbe : ((bi st).2 != 0) = true := by simpa using he
              have HF := ah (dT (c := c) hy (spB_txt he))
              generalize (bi st).2 = er at HAL hbe he
              clear hcs hWa hba BP hat hat0 ns hcap hwf hbel hbw HO hy
              go_wp2_with (first | (go_at_call 67; rw [HA.out]; refine (HAL.out _).mono ?_; rintro e W1 ⟨⟨v1, rfl, a1, n1, k1, rfl⟩, hb1⟩; obtain ⟨d0, d1, d2, f0, f1, nsS, -⟩ := HFA.out W1 hb1; have HRI := ah (fun q => HRIS.out (W1.drewN q) (nsS.below (aE.below ⟨q, rfl⟩ _)))))
              go_quiet (first
               | (go_at_call 36; exact Calls.quiet_of_same (HID.out _))
               | (go_at_call 28; exact Calls.quiet_of (HRI.out _)))
              go_wp2
              go_ret
              exact ⟨by rw [HF.out]; rfl, (bJ HB0.out (bJ HB.out hb1)).trans (aE.below ⟨_, rfl⟩ _)⟩
            ·have HID := ah (fun W => gR si W)
             rw [decide_eq_false hid] at HID
             have HF := ah (dT (c := c) hy (spB_id hid))
             generalize (bi st).2 = er at HAL
             clear hcs hWa hba BP hat hat0 ns hcap hwf hbel hbw HO hy
             go_wp2_with (first | (go_at_call 67; rw [HA.out]; refine (HAL.out _).mono ?_; rintro e W1 ⟨⟨v1, rfl, a1, n1, k1, rfl⟩, hb1⟩; obtain ⟨d0, d1, d2, f0, f1, nsS, -⟩ := HFA.out W1 hb1; have HRI := ah (fun q => HRIS.out (W1.drewN q) (nsS.below (aE.below ⟨q, rfl⟩ _)))))
             go_quiet (first
              | (go_at_call 36; exact Calls.quiet_of_same (HID.out _))
              | (go_at_call 28; exact Calls.quiet_of (HRI.out _)))
             go_wp2
             go_ret
             exact ⟨by rw [HF.out]; rfl, (bJ HB0.out (bJ HB.out hb1)).trans (aE.below ⟨_, rfl⟩ _)⟩
           ·obtain ⟨m, hm⟩ : ∃ m, k = m + 1 := ⟨k - 1, by omega⟩
            obtain ⟨⟨pi, pt, pl⟩, hx⟩ := cA (l := c.splits) (i := m) (by omega)
            obtain ⟨p0, -⟩ := hat0 m _ hx
            simp only at p0
            have hwr : IntKind.i64.wrap ((k : Int) - 1) = (m : Int) := by rw [IntKind.wrap_i64]; omega
            have hm0 : (0 : Int) ≤ (m : Int) := by omega
            have hmi : (m : Int) < (c.splits.length : Int) := by omega
            have hd1 : decide ((0 : Int) < (k : Int)) = true := decide_eq_true (by omega)
            have hd2 : decide (0 < k) = true := decide_eq_true (by omega)
            have HFA := ah (show ∀ W1, Below Wa.heap.size Wa W1 → W1.cell? ⟨w0.heap.size, 0, none⟩ = some (.int .i64 si) ∧ W1.cell? ⟨w0.heap.size, 1, none⟩ = some (.string st) ∧ W1.cell? ⟨w0.heap.size, 2, none⟩ = some (.slice sa sl.length sc) ∧ W1.cell? ⟨w.heap.size, 0, none⟩ = some (.int .i64 cs) ∧ W1.cell? ⟨w.heap.size, 1, none⟩ = some (.slice (some ⟨b, off, none⟩) c.splits.length vc) ∧ NS W1 (.slice sa sl.length sc) sl ∧ W1.cell? ⟨b, off + m * 3, none⟩ = some (.int .i64 pi) from fun W1 h1 => by
             obtain ⟨y0, y1, y2⟩ := (BP.below h1).cells
             obtain ⟨z0, z1, -⟩ := (HF0.out.below (bJ hbel (bJ hba h1))).cells
             exact ⟨y0, y1, y2, by rw [hcs]; exact z0, z1, (ns.below hba).below h1, ((bJ hba h1).cell (p := ⟨b, _, none⟩) hblt).trans p0⟩)
            by_cases hid : 1 ≤ si ∧ si ≤ 1048576
            ·have HID := ah (fun W => gR si W)
             rw [decide_eq_true hid] at HID
             by_cases hlt3 : pi < si
             ·have d3 : decide (si ≤ pi) = false := decide_eq_false (by omega)
              by_cases he : (bi st).2 = 0
              ·have hbe : ((bi st).2 != 0) = false := by rw [he]; rfl
               rw [he] at HAL
               by_cases hs0 : sl.length = 0
               ·have HF := ah (dT (c := c) hy (spB_len hs0))
                have hl0 : ((sl.length : Int) == 0) = true := by rw [hs0]; rfl
                clear hs0
                clear hcs hWa hba BP hat hat0 ns hcap hwf hbel hbw HO hy hm hx p0
                go_wp2_with (first | (go_at_call 67; rw [HA.out]; refine (HAL.out _).mono ?_; rintro e W1 ⟨⟨v1, rfl, a1, n1, k1, rfl⟩, hb1⟩; obtain ⟨d0, d1, d2, f0, f1, nsS, p0⟩ := HFA.out W1 hb1; have HRI := ah (fun q => HRIS.out (W1.drewN q) (nsS.below (aE.below ⟨q, rfl⟩ _)))))
                go_quiet (first
                 | (go_at_call 36; exact Calls.quiet_of_same (HID.out _))
                 | (go_at_call 28; exact Calls.quiet_of (HRI.out _)))
                go_wp2
                go_ret
                exact ⟨by rw [HF.out]; rfl, (bJ HB0.out (bJ HB.out hb1)).trans (aE.below ⟨_, rfl⟩ _)⟩
               ·have hl0 : ((sl.length : Int) == 0) = false := beq_eq_false_iff_ne.2 (by omega)
                cases hr : cr 1 cs sl with
                | false =>
                 have HF := ah (dT (c := c) hy (spB_ris (by rw [HCS.out]; exact hr)))
                 rw [hr] at HRIS
                 clear hcs hWa hba BP hat hat0 ns hcap hwf hbel hbw HO hy hm hx p0
                 go_wp2_with (first | (go_at_call 67; rw [HA.out]; refine (HAL.out _).mono ?_; rintro e W1 ⟨⟨v1, rfl, a1, n1, k1, rfl⟩, hb1⟩; obtain ⟨d0, d1, d2, f0, f1, nsS, p0⟩ := HFA.out W1 hb1; have HRI := ah (fun q => HRIS.out (W1.drewN q) (nsS.below (aE.below ⟨q, rfl⟩ _)))))
                 go_quiet (first
                  | (go_at_call 36; exact Calls.quiet_of_same (HID.out _))
                  | (go_at_call 28; exact Calls.quiet_of (HRI.out _)))
                 go_wp2
                 go_ret
                 exact ⟨by rw [HF.out]; rfl, (bJ HB0.out (bJ HB.out hb1)).trans (aE.below ⟨_, rfl⟩ _)⟩
                | true =>
                 have HO2 := ah (HO.out.step hy (spB_mk hid he (by omega) (by rw [HCS.out]; exact hr)) (fun m' y' hm' hy' => by
                  obtain rfl : m' = m := by omega
                  rw [hx] at hy'
                  injection hy' with hy'
                  subst hy'
                  exact hlt3))
                 rw [hr] at HRIS
                 clear hcs hWa hba BP hat hat0 ns hcap hwf hbel hbw HO hy hm hx p0
                 go_wp2_with (first | (go_at_call 67; rw [HA.out]; refine (HAL.out _).mono ?_; rintro e W1 ⟨⟨v1, rfl, a1, n1, k1, rfl⟩, hb1⟩; obtain ⟨d0, d1, d2, f0, f1, nsS, p0⟩ := HFA.out W1 hb1; have HRI := ah (fun q => HRIS.out (W1.drewN q) (nsS.below (aE.below ⟨q, rfl⟩ _)))))
                 go_quiet (first
                  | (go_at_call 36; exact Calls.quiet_of_same (HID.out _))
                  | (go_at_call 28; exact Calls.quiet_of (HRI.out _)))
                 go_wp2
                 go_roundw
                 case rel => exact ⟨k + 1, by omega, by go_num, HO2.out, (bJ HB.out hb1).trans (aE.below ⟨_, rfl⟩ _)⟩
                 case measure => simp [intOf]; omega
              ·have hbe : ((bi st).2 != 0) = true := by simpa using he
               have HF := ah (dT (c := c) hy (spB_txt he))
               generalize (bi st).2 = er at HAL hbe he
               clear hcs hWa hba BP hat hat0 ns hcap hwf hbel hbw HO hy hm hx p0
               go_wp2_with (first | (go_at_call 67; rw [HA.out]; refine (HAL.out _).mono ?_; rintro e W1 ⟨⟨v1, rfl, a1, n1, k1, rfl⟩, hb1⟩; obtain ⟨d0, d1, d2, f0, f1, nsS, p0⟩ := HFA.out W1 hb1; have HRI := ah (fun q => HRIS.out (W1.drewN q) (nsS.below (aE.below ⟨q, rfl⟩ _)))))
               go_quiet (first
                | (go_at_call 36; exact Calls.quiet_of_same (HID.out _))
                | (go_at_call 28; exact Calls.quiet_of (HRI.out _)))
               go_wp2
               go_ret
               exact ⟨by rw [HF.out]; rfl, (bJ HB0.out (bJ HB.out hb1)).trans (aE.below ⟨_, rfl⟩ _)⟩
             ·have d3 : decide (si ≤ pi) = true := decide_eq_true (by omega)
              have HF := ah (cfgB_two hm hx hy hlt3)
              generalize (bi st).2 = er at HAL
              clear hcs hWa hba BP hat hat0 ns hcap hwf hbel hbw HO hy hm hx p0
              go_wp2_with (first | (go_at_call 67; rw [HA.out]; refine (HAL.out _).mono ?_; rintro e W1 ⟨⟨v1, rfl, a1, n1, k1, rfl⟩, hb1⟩; obtain ⟨d0, d1, d2, f0, f1, nsS, p0⟩ := HFA.out W1 hb1; have HRI := ah (fun q => HRIS.out (W1.drewN q) (nsS.below (aE.below ⟨q, rfl⟩ _)))))
              go_quiet (first
               | (go_at_call 36; exact Calls.quiet_of_same (HID.out _))
               | (go_at_call 28; exact Calls.quiet_of (HRI.out _)))
              go_wp2
              go_ret
              exact ⟨by rw [HF.out]; rfl, (bJ HB0.out (bJ HB.out hb1)).trans (aE.below ⟨_, rfl⟩ _)⟩
            ·have HID := ah (fun W => gR si W)
             rw [decide_eq_false hid] at HID
             have HF := ah (dT (c := c) hy (spB_id hid))
             generalize (bi st).2 = er at HAL
             clear hcs hWa hba BP hat hat0 ns hcap hwf hbel hbw HO hy hm hx p0
             go_wp2_with (first | (go_at_call 67; rw [HA.out]; refine (HAL.out _).mono ?_; rintro e W1 ⟨⟨v1, rfl, a1, n1, k1, rfl⟩, hb1⟩; obtain ⟨d0, d1, d2, f0, f1, nsS, p0⟩ := HFA.out W1 hb1; have HRI := ah (fun q => HRIS.out (W1.drewN q) (nsS.below (aE.below ⟨q, rfl⟩ _)))))
             go_quiet (first
              | (go_at_call 36; exact Calls.quiet_of_same (HID.out _))
              | (go_at_call 28; exact Calls.quiet_of (HRI.out _)))
             go_wp2
             go_ret
             exact ⟨by rw [HF.out]; rfl, (bJ HB0.out (bJ HB.out hb1)).trans (aE.below ⟨_, rfl⟩ _)⟩
          ·have HF := ah (HO.out.fin (by omega) hhead.out)
           have hlt' : ¬ (k : Int) < (c.splits.length : Int) := by omega
           go_wp2
           go_ret
           exact ⟨by rw [HF.out]; rfl, bJ HB0.out hbel⟩
        ·have d7 : decide (c.over < 2 * c.again) = true := decide_eq_true (by omega)
         have HF := ah (dB (c := c) (by cases e : eh c with
          | false => rfl
          | true => have := dG e; omega))
         go_enter Tryz.func26, Tryz.ntmps26
         go_wp2
         go_ret
         exact ⟨by rw [HF.out]; rfl, Below.refl _ _ |>.alloc (Nat.le_refl _) _⟩
       ·have d6 : decide (64 < c.over) = true := decide_eq_true (by omega)
        have HF := ah (dB (c := c) (by cases e : eh c with
         | false => rfl
         | true => have := dG e; omega))
        go_enter Tryz.func26, Tryz.ntmps26
        go_wp2
        go_ret
        exact ⟨by rw [HF.out]; rfl, Below.refl _ _ |>.alloc (Nat.le_refl _) _⟩
      ·have d5 : decide (c.over < 16) = true := decide_eq_true (by omega)
       have HF := ah (dB (c := c) (by cases e : eh c with
        | false => rfl
        | true => have := dG e; omega))
       go_enter Tryz.func26, Tryz.ntmps26
       go_wp2
       go_ret
       exact ⟨by rw [HF.out]; rfl, Below.refl _ _ |>.alloc (Nat.le_refl _) _⟩
     ·have d4 : decide (16 < c.again) = true := decide_eq_true (by omega)
      have HF := ah (dB (c := c) (by cases e : eh c with
       | false => rfl
       | true => have := dG e; omega))
      go_enter Tryz.func26, Tryz.ntmps26
      go_wp2
      go_ret
      exact ⟨by rw [HF.out]; rfl, Below.refl _ _ |>.alloc (Nat.le_refl _) _⟩
    ·have d3 : decide (c.again < 1) = true := decide_eq_true (by omega)
     have HF := ah (dB (c := c) (by cases e : eh c with
      | false => rfl
      | true => have := dG e; omega))
     go_enter Tryz.func26, Tryz.ntmps26
     go_wp2
     go_ret
     exact ⟨by rw [HF.out]; rfl, Below.refl _ _ |>.alloc (Nat.le_refl _) _⟩
   ·have d2 : decide ((6 : Int) < (c.splits.length : Int)) = true := decide_eq_true (by omega)
    have HF := ah (dB (c := c) (by cases e : eh c with
     | false => rfl
     | true => have := dG e; omega))
    go_enter Tryz.func26, Tryz.ntmps26
    go_wp2
    go_ret
    exact ⟨by rw [HF.out]; rfl, Below.refl _ _ |>.alloc (Nat.le_refl _) _⟩
  ·have d1 : decide (3 < c.sites) = true := decide_eq_true (by omega)
   have HF := ah (dB (c := c) (by cases e : eh c with
    | false => rfl
    | true => have := dG e; omega))
   go_enter Tryz.func26, Tryz.ntmps26
   go_wp2
   go_ret
   exact ⟨by rw [HF.out]; rfl, Below.refl _ _ |>.alloc (Nat.le_refl _) _⟩
 ·have d0 : decide (c.sites < 1) = true := decide_eq_true (by omega)
  have HF := ah (dB (c := c) (by cases e : eh c with
   | false => rfl
   | true => have := dG e; omega))
  go_enter Tryz.func26, Tryz.ntmps26
  go_wp2
  go_ret
  exact ⟨by rw [HF.out]; rfl, Below.refl _ _ |>.alloc (Nat.le_refl _) _⟩
theorem iH {P : Program} {fn : Func} {t u : Tmp} {T : TypeId} {a : Addr} {x : Value} (h : fn.results = #[.cell t T, .tmp u]) {tmps : Array Value} {w : World} (hp : tmps.getD t undef = .pointer (some a)) (hl : (loadVar T a).run P w = .ok x w) :
  (results fn tmps).run P w = .ok (.tuple #[x, tmps.getD u undef]) w := by
 have hp' : tmps[t]?.getD undef = .pointer (some a) := by simpa using hp
 simp [results, h, hp', hl, asAddr]
theorem loadP {W : World} {b : Nat} {x0 x1 x2 : Value} (h : ct W b x0 x1 x2) : (loadVar 93 ⟨b, 0, none⟩).run Tryz.prog W = .ok (.agg #[x0, x1, x2]) W := by
 obtain ⟨h0, h1, h2⟩ := h.cells
 have a30 := Tryz.isAgg93
 have z30 := Tryz.sizeOf93
 have hc := run_loadCells_list (P := Tryz.prog) W ⟨b, 0, none⟩ [x0, x1, x2] (fun j v hj => by
  match j, hj with
  | 0, hj => simp at hj; subst hj; simpa [Addr.add] using h0
  | 1, hj => simp at hj; subst hj; simpa [Addr.add] using h1
  | 2, hj => simp at hj; subst hj; simpa [Addr.add] using h2)
 simp [loadVar, a30, z30]
 have hc' : (loadCells ⟨b, 0, none⟩ 3).run Tryz.prog W = .ok #[x0, x1, x2] W := hc
 rw [hc']
 rfl
theorem ct.set0 {W : World} {b : Nat} {x0 x1 x2 : Value} (h : ct W b x0 x1 x2) (y : Value) : ct (W.setCell ⟨b, 0, none⟩ y) b y x1 x2 := by
 unfold ct at h ⊢
 rw [heap_setCell_same W b 0 _ 93 y h]
 rfl
theorem ct.set1 {W : World} {b : Nat} {x0 x1 x2 : Value} (h : ct W b x0 x1 x2) (y : Value) : ct (W.setCell ⟨b, 1, none⟩ y) b x0 y x2 := by
 unfold ct at h ⊢
 rw [heap_setCell_same W b 1 _ 93 y h]
 rfl
theorem ct.set2 {W : World} {b : Nat} {x0 x1 x2 : Value} (h : ct W b x0 x1 x2) (y : Value) : ct (W.setCell ⟨b, 2, none⟩ y) b x0 x1 y := by
 unfold ct at h ⊢
 rw [heap_setCell_same W b 2 _ 93 y h]
 rfl
def fR (c : aX) (i : Int) : cM × Int := match bX c.splits i with
 | none => (s0, 3)
 | some k => (c.splits.getD k s0, 0)
theorem fR_some {c : aX} {i : Int} {k : Nat} {s : cM} (hi : bX c.splits i = some k) (hs : c.splits[k]? = some s) : fR c i = (s, 0) := by
 unfold fR
 rw [hi]
 simp [List.getD_eq_getElem?_getD, hs]
theorem fR_none {c : aX} {i : Int} (hi : bX c.splits i = none) : fR c i = (s0, 3) := by
 unfold fR
 rw [hi]
def FndPost (c : aX) (id : Int) (w : World) (e : Ending) (w' : World) : Prop := (∃ a cap, e = .returned (.tuple #[.agg #[.int .i64 (fR c id).1.1, .string (fR c id).1.2.1, .slice a (fR c id).1.2.2.length cap], .int .i64 (fR c id).2]) ∧ NS w' (.slice a (fR c id).1.2.2.length cap) (fR c id).1.2.2) ∧ Below w.heap.size w w'
theorem put3 {w W : World} {b : Nat} (y0 y1 y2 : Value) (h : Below w.heap.size w W) (hb : w.heap.size ≤ b) : Below w.heap.size w (((W.setCell ⟨b, 0, none⟩ y0).setCell ⟨b, 1, none⟩ y1).setCell ⟨b, 2, none⟩ y2) := ((h.setCell (p := ⟨b, 0, none⟩) hb y0).setCell (p := ⟨b, 1, none⟩) hb y1).setCell (p := ⟨b, 2, none⟩) hb y2
theorem sfind_any (c : aX) (v : Value) (id : Int) (w : World) (h : nG w c v) :
  Calls Tryz.prog 106 #[cL c v, .int .i64 id] w (FndPost c id w) := by
 have hlen := h.len
 obtain ⟨va, vc, rfl, hsh⟩ := h.ps
 clear h
 obtain ⟨W0, hW0⟩ : ∃ W0 : World, W0 = (w.alloc (.cells #[.int .i64 c.sites, .slice va c.splits.length vc, .int .i64 c.again, .int .i64 c.over] 24)).alloc (.cells #[.int .i64 0, .string ⟨#[]⟩, .slice none 0 0] 93) := ⟨_, rfl⟩
 have st : ∀ (W : World) (o : Obj), Below W.heap.size W (W.alloc o) := fun W o => (Below.refl _ _).alloc (Nat.le_refl _) _
 have hb0 : Below w.heap.size w W0 := by rw [hW0]; exact bJ (st _ _) (st _ _)
 have B0 : dg W0 w.heap.size (.int .i64 c.sites) (.slice va c.splits.length vc) (.int .i64 c.again) (.int .i64 c.over) := by rw [hW0]; exact (dg.new w _ _ _ _).below (st _ _)
 have B1 : ct W0 (w.heap.size + 1) (.int .i64 0) (.string ⟨#[]⟩) (.slice none 0 0) := by rw [hW0]; simpa using ct.new (w.alloc (.cells #[.int .i64 c.sites, .slice va c.splits.length vc, .int .i64 c.again, .int .i64 c.over] 24)) (.int .i64 0) (.string ⟨#[]⟩) (.slice none 0 0)
 obtain ⟨r0, r1, r2, r3⟩ := B0.cells
 have HW := ah hW0.symm
 have HB0 := ah hb0
 have HB1 := ah B1
 clear hW0 hb0 B0 st B1
 go_enter Tryz.func106, Tryz.ntmps106
 go_wp2
 rw [HW.out]
 go_loopw [11] (fun i wr => ∃ k : Nat, k ≤ c.splits.length ∧ i = .int .i64 k ∧ Hid (∀ x ∈ c.splits.take k, x.1 ≠ id) ∧ Below W0.heap.size W0 wr) (fun i _ => c.splits.length - (intOf i).toNat)
 case atStart => exact ⟨0, by omega, rfl, (fun x hx => by simp at hx), Below.refl _ _⟩
 case round =>
  rename World => w0
  obtain ⟨k, hk, rfl, HO, hbel⟩ := hrel
  have hbw := bJ HB0.out hbel
  have B1 := HB1.out.below hbel
  have hz1 : w.heap.size + 1 < w0.heap.size := B1.lt
  by_cases hlt : k < c.splits.length
  ·obtain ⟨⟨si, tx, sl⟩, hy⟩ := cA hlt
   rcases hsh with hnil | ⟨b, off, rfl, hb, hat⟩
   ·rw [hnil] at hlt; simp at hlt
   obtain ⟨-, -, sa, sc, c2', nsw, -⟩ := hat k _ hy
   obtain ⟨c0, c1, sa', sc', c2, ns, hcap⟩ := (hat.below hbw hb) k _ hy
   have e2 := ((hbw.cell (p := ⟨b, off + k * 3 + 2, none⟩) hb).trans c2').symm.trans c2
   injection e2 with e2
   injection e2 with e3 e4 e5
   subst e3 e5
   clear c2' e4
   simp only at c0 c1 c2 ns hcap nsw
   have hki0 : (0 : Int) ≤ (k : Int) := by omega
   have hki : (k : Int) < (c.splits.length : Int) := by omega
   obtain ⟨Wa, hWa⟩ : ∃ Wa : World, Wa = w0.alloc (.cells #[.int .i64 si, .string tx, .slice sa sl.length sc] 93) := ⟨_, rfl⟩
   have hba : Below w0.heap.size w0 Wa := by rw [hWa]; exact (Below.refl _ _).alloc (Nat.le_refl _) _
   have BP : ct Wa w0.heap.size (.int .i64 si) (.string tx) (.slice sa sl.length sc) := by rw [hWa]; exact ct.new w0 _ _ _
   have HWA := ah (bJ hbel hba)
   have BA := B1.below hba
   have hbwa := bJ hbw hba
   obtain ⟨x0, x1, x2⟩ := BP.cells
   have HA := ah hWa.symm
   clear hWa hba hat
   by_cases he : si = id
   ·have HF := ah (fR_some (c := c) (findC_at hy he HO.out) hy)
    have hbe : (si == id) = true := by simpa using he
    have st : ∀ (W : World) (o : Obj), Below W.heap.size W (W.alloc o) := fun W o => (Below.refl _ _).alloc (Nat.le_refl _) _
    have hbb := bJ (put3 (.int .i64 si) (.string tx) (.slice sa sl.length sc) hbw (Nat.le_succ _ : w.heap.size ≤ w.heap.size + 1)) (st _ (.cells #[.int .i64 si, .string tx, .slice sa sl.length sc] 93))
    have NB := ah (nsw.below hbb)
    have BB := ah hbb
    obtain ⟨a0, a1, a2⟩ := B1.cells
    have f0 := B1.free 0
    have f1 := (B1.set0 (.int .i64 si)).free 1
    have f2 := ((B1.set0 (.int .i64 si)).set1 (.string tx)).free 2
    obtain ⟨-, a1', a2'⟩ := (B1.set0 (.int .i64 si)).cells
    obtain ⟨-, -, a2''⟩ := ((B1.set0 (.int .i64 si)).set1 (.string tx)).cells
    have HR := ah ((((B1.set0 (.int .i64 si)).set1 (.string tx)).set2 (.slice sa sl.length sc)).below (st _ (.cells #[.int .i64 si, .string tx, .slice sa sl.length sc] 93)))
    clear hy HO hbel hbw B1 ns nsw BA hbwa BP hbb he st HA x0 x1 x2
    go_wp2
    refine bodyPost_ret (iH rfl rfl (loadP HR.out)) rfl ?_
    exact ⟨⟨sa, sc, by rw [HF.out]; rfl, by rw [HF.out]; exact NB.out⟩, BB.out⟩
   ·have hbe : (si == id) = false := by simpa using he
    have HO2 := ah (show ∀ x ∈ c.splits.take (k + 1), x.1 ≠ id from fun x hx => by
     rw [List.take_add_one, hy] at hx
     rcases List.mem_append.1 hx with hx | hx
     ·exact HO.out x hx
     ·simp at hx; subst hx; exact he)
    clear hy HO hbel hbw B1 ns nsw BA hbwa
    go_wp2
    go_roundw
    case rel => exact ⟨k + 1, by omega, by go_num, HO2.out, (by rw [HA.out]; exact HWA.out)⟩
    case measure => simp [intOf]; omega
  ·have HF := ah (fR_none (mM (fun x hx => HO.out x (by rw [List.take_of_length_le (by omega)]; exact hx))))
   have hlt' : ¬ (k : Int) < (c.splits.length : Int) := by omega
   have hbb := ah (put3 (.int .i64 0) (.string ⟨#[]⟩) (.slice none 0 0) hbw (Nat.le_succ _ : w.heap.size ≤ w.heap.size + 1))
   obtain ⟨a0, a1, a2⟩ := B1.cells
   have f0 := B1.free 0
   have f1 := (B1.set0 (.int .i64 0)).free 1
   have f2 := ((B1.set0 (.int .i64 0)).set1 (.string ⟨#[]⟩)).free 2
   obtain ⟨-, a1', a2'⟩ := (B1.set0 (.int .i64 0)).cells
   obtain ⟨-, -, a2''⟩ := ((B1.set0 (.int .i64 0)).set1 (.string ⟨#[]⟩)).cells
   have HR := ah (((B1.set0 (.int .i64 0)).set1 (.string ⟨#[]⟩)).set2 (.slice none 0 0))
   clear hbw B1 hbel
   go_wp2
   refine bodyPost_ret (iH rfl rfl (loadP HR.out)) rfl ?_
   exact ⟨⟨none, 0, by rw [HF.out]; rfl, by rw [HF.out]; exact ⟨none, 0, rfl, .inl rfl⟩⟩, hbb.out⟩
def jW (l : List Int) (k : Nat) : Int := match k with
 | 0 => 0
 | k + 1 => l.getD k 0
theorem jX {l : List Int} {k : Nat} {x : Int} (h : l[k]? = some x) : jW l (k + 1) = x := by simp [jW, List.getD_eq_getElem?_getD, h]
theorem el.low {hi : Int} {l : List Int} {k : Nat} (h : el 1 hi l k) (hk : k ≤ l.length) : 0 ≤ jW l k := by
 cases k with
 | zero => exact Int.le_refl _
 | succ k =>
  obtain ⟨x, hx⟩ := cA (l := l) (i := k) (by omega)
  rw [jX hx]
  have := (h.all x (by rw [List.take_add_one, hx]; simp)).1
  omega
theorem el.next {hi : Int} {l : List Int} {k : Nat} {x : Int} (h : el 1 hi l k) (hx : l[k]? = some x) (h1 : jW l k < x) (h2 : x ≤ hi) : el 1 hi l (k + 1) := by
 have hk := (List.getElem?_eq_some_iff.1 hx).1
 have h0 := h.low (by omega)
 refine h.step hx ⟨by omega, h2⟩ fun m y hm hy => ?_
 subst hm
 rwa [jX hy] at h1
theorem risL_last {hi : Int} {l : List Int} {k : Nat} {x : Int} (hx : l[k]? = some x) (h : ¬ jW l k < x) : cr 1 hi l = false := by
 cases k with
 | zero => exact jV hx (fun e => h (by have := e.1; show (0 : Int) < x; omega))
 | succ m =>
  obtain ⟨y, hy⟩ := cA (l := l) (i := m) (by have := (List.getElem?_eq_some_iff.1 hx).1; omega)
  rw [jX hy] at h
  exact risL_two rfl hy hx h
theorem mV (hi : Int) (v : Value) (l : List Int) (w : World) (h : NS w v l) (hl : l.length ≤ 17592186043904) :
  Calls Tryz.prog 146 #[v, .int .i64 hi] w fun e w' => e = .returned (.bool (cr 1 hi l)) ∧ w' = w := by
 obtain ⟨va, vc, rfl, hsh⟩ := h
 go_enter Tryz.func146, Tryz.ntmps146
 go_wp2
 go_loop [5, 10] (fun la i => ∃ k : Nat, k ≤ l.length ∧ i = .int .i64 k ∧ Hid (el 1 hi l k) ∧ la = .int .i64 (jW l k)) (fun _ i => l.length - (intOf i).toNat)
 case atStart => exact ⟨0, by omega, rfl, el.start _ _ _, rfl⟩
 case round =>
  obtain ⟨k, hk, rfl, HO, rfl⟩ := hrel
  by_cases hlt : k < l.length
  ·obtain ⟨x, hx⟩ := cA hlt
   rcases hsh with rfl | ⟨b, off, rfl, hb, hat⟩
   ·simp at hlt
   have c0 := hat k x hx
   have hk0 : (0 : Int) ≤ (k : Int) := by omega
   have hki : (k : Int) < (l.length : Int) := by omega
   by_cases h1 : jW l k < x
   ·have d1 : decide (x ≤ jW l k) = false := decide_eq_false (by omega)
    by_cases h2 : x ≤ hi
    ·have d2 : decide (hi < x) = false := decide_eq_false (by omega)
     have HO2 := ah (HO.out.next hx h1 h2)
     have HL := ah (jX hx)
     clear hat hx HO
     go_wp2
     go_round
     case rel => exact ⟨k + 1, by omega, by go_num, HO2.out, by rw [HL.out]⟩
     case measure => simp [intOf]; omega
    ·have d2 : decide (hi < x) = true := decide_eq_true (by omega)
     have HF := ah (jV (lo := 1) (hi := hi) hx (by omega))
     clear hat hx HO
     go_wp2
     go_ret
     exact ⟨by rw [HF.out]; rfl, rfl⟩
   ·have d1 : decide (x ≤ jW l k) = true := decide_eq_true (by omega)
    have HF := ah (risL_last (hi := hi) hx h1)
    clear hat hx HO
    go_wp2
    go_ret
    exact ⟨by rw [HF.out]; rfl, rfl⟩
  ·have HF := ah (HO.out.fin (by omega))
   have hlt' : l.length ≤ k := by omega
   go_wp2
   go_ret
   exact ⟨by rw [HF.out]; rfl, rfl⟩
def je (a o : Int) : Bool := decide (1 ≤ a ∧ a ≤ 16) && (decide (16 ≤ o ∧ o ≤ 64) && decide (2 * a ≤ o))
theorem areWaits_any (a o : Int) (w : World) : Calls Tryz.prog 100 #[.int .i64 a, .int .i64 o] w fun e w' => e = .returned (.bool (je a o)) ∧ w' = w := by
 have key : ∀ b, je a o = b → Calls Tryz.prog 100 #[.int .i64 a, .int .i64 o] w fun e w' => e = .returned (.bool b) ∧ w' = w := by
  intro b hb
  unfold je at hb
  by_cases h1 : 1 ≤ a
  ·have d1 : decide (1 ≤ a) = true := decide_eq_true h1
   by_cases h2 : a ≤ 16
   ·have d2 : decide (a ≤ 16) = true := decide_eq_true h2
    by_cases h3 : 16 ≤ o
    ·have d3 : decide (16 ≤ o) = true := decide_eq_true h3
     by_cases h4 : o ≤ 64
     ·have d4 : decide (o ≤ 64) = true := decide_eq_true h4
      have hw : IntKind.i64.wrap (2 * a) = 2 * a := by rw [IntKind.wrap_i64]; omega
      by_cases h5 : 2 * a ≤ o
      ·have d5 : decide (2 * a ≤ o) = true := decide_eq_true h5
       obtain rfl : b = true := by rw [← hb, decide_eq_true (show 1 ≤ a ∧ a ≤ 16 from ⟨h1, h2⟩), decide_eq_true (show 16 ≤ o ∧ o ≤ 64 from ⟨h3, h4⟩), d5]; rfl
       clear hb h1 h2 h3 h4 h5
       go_enter Tryz.func100, Tryz.ntmps100
       go_wp2
       go_ret
       exact ⟨rfl, rfl⟩
      ·have d5 : decide (2 * a ≤ o) = false := decide_eq_false h5
       obtain rfl : b = false := by rw [← hb, d5, Bool.and_false, Bool.and_false]
       clear hb h1 h2 h3 h4 h5
       go_enter Tryz.func100, Tryz.ntmps100
       go_wp2
       go_ret
       exact ⟨rfl, rfl⟩
     ·have d4 : decide (o ≤ 64) = false := decide_eq_false h4
      obtain rfl : b = false := by rw [← hb, decide_eq_false (show ¬ (16 ≤ o ∧ o ≤ 64) from fun e => h4 e.2), Bool.false_and, Bool.and_false]
      clear hb h1 h2 h3 h4
      go_enter Tryz.func100, Tryz.ntmps100
      go_wp2
      go_ret
      exact ⟨rfl, rfl⟩
    ·have d3 : decide (16 ≤ o) = false := decide_eq_false h3
     obtain rfl : b = false := by rw [← hb, decide_eq_false (show ¬ (16 ≤ o ∧ o ≤ 64) from fun e => h3 e.1), Bool.false_and, Bool.and_false]
     clear hb h1 h2 h3
     go_enter Tryz.func100, Tryz.ntmps100
     go_wp2
     go_ret
     exact ⟨rfl, rfl⟩
   ·have d2 : decide (a ≤ 16) = false := decide_eq_false h2
    obtain rfl : b = false := by rw [← hb, decide_eq_false (show ¬ (1 ≤ a ∧ a ≤ 16) from fun e => h2 e.2), Bool.false_and]
    clear hb h1 h2
    go_enter Tryz.func100, Tryz.ntmps100
    go_wp2
    go_ret
    exact ⟨rfl, rfl⟩
  ·have d1 : decide (1 ≤ a) = false := decide_eq_false h1
   obtain rfl : b = false := by rw [← hb, decide_eq_false (show ¬ (1 ≤ a ∧ a ≤ 16) from fun e => h1 e.1), Bool.false_and]
   clear hb h1
   go_enter Tryz.func100, Tryz.ntmps100
   go_wp2
   go_ret
   exact ⟨rfl, rfl⟩
 exact key _ rfl
end Go.Proofs.YtclcgakfmcofaaaGreatDoor
