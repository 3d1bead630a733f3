/- Texts laid together: SStr, LRWord, LRNum, LRSplit, LRRead, LRBlk, LRParse. -/
import Derived.Test.YtclcgakfmcofaaaGreatDoorRows
import Derived.WalkKit
import Derived.ProofKit
import Derived.OpenShut
import Derived.ShutString
import Derived.ChangeOld
import Derived.Below
import Derived.SliceStrings
import Derived.LaidMore
import Derived.WalkSmall
import Derived.Stop.Joined
import Derived.Test.YtclcgakfmcofaaaGreatDoorMW1
import Derived.Test.YtclcgakfmcofaaaGreatDoorMW2
import Derived.Deep.Slices
import Derived.OwnWalk
import Derived.Deep.QuietTactic
import Derived.BigQuiet
import Derived.Maps.AppendAt
import Derived.Test.YtclcgakfmcofaaaGreatDoorMW10
import Derived.Deep.LoopGhost
import Derived.Deep.Cut
import Derived.Deep.CutRange
import Derived.Deep.CutBlock
set_option linter.unusedVariables false
set_option maxRecDepth 100000
set_option maxHeartbeats 1600000
namespace Go.Proofs.YtclcgakfmcofaaaGreatDoor
open Go.ChangeAt Go.ChangeShapes Go.RowKit Go.WideShapes
theorem own : ownKnob Tryz.prog.godebug = none := by kernel_rfl
theorem Tryz.cells9L : Tryz.prog.cellsOf 9 = 1 := by kernel_rfl
def jb (w : World) (b off : Nat) (l : List ByteArray) : Prop := ∀ i x, l[i]? = some x → w.cell? ⟨b, off + i, none⟩ = some (.string x)
def SS (w : World) (v : Value) (l : List ByteArray) : Prop :=
 ∃ a cap, v = .slice a l.length cap ∧ (l = [] ∨ ∃ b off, a = some ⟨b, off, none⟩ ∧ b < w.heap.size ∧ jb w b off l)
abbrev gQ (l : List ByteArray) : List Value := l.map Value.string
theorem dZ {w : World} {g : Nat} {cur : Array Value} {e : TypeId} {l : List ByteArray} (hb : w.heap[g]? = some (.cells cur e (0, 0))) (ht : cur.toList.take (l.length * 1) = gQ l) : jb w g 0 l := by
 intro i x hx
 have hi : i < l.length := (List.getElem?_eq_some_iff.1 hx).1
 have h0 : (gQ l)[i]? = some (.string x) := by simp [gQ, hx]
 rw [← ht, List.getElem?_take_of_lt (by omega)] at h0
 simp only [World.cell?, hb, Nat.zero_add]
 simpa using h0
abbrev fo (w : World) (base : Nat) (v : Value) (l : List ByteArray) : Prop := w.ownsRow base 9 1 v l.length (gQ l)
theorem SS.own {w : World} {base : Nat} {v : Value} {l : List ByteArray} (h : fo w base v l) : SS w v l := by
 rcases h.2 with ⟨rfl, h0⟩ | ⟨g, cap, cur, rfl, _, hb, _, _, _, ht⟩
 ·have : l = [] := List.length_eq_zero_iff.1 h0
  subst this
  exact ⟨none, 0, rfl, .inl rfl⟩
 ·exact ⟨_, cap, rfl, .inr ⟨g, 0, rfl, (Array.getElem?_eq_some_iff.1 hb).1, dZ hb ht⟩⟩
theorem fo.below {w w' : World} {base : Nat} {v : Value} {l : List ByteArray} (h : fo w base v l) (hb : Below w.heap.size w w') : fo w' base v l := by
 refine ⟨h.1, ?_⟩
 rcases h.2 with ⟨h1, h2⟩ | ⟨g, cap, cur, h1, h2, h3, h4⟩
 ·exact .inl ⟨h1, h2⟩
 ·exact .inr ⟨g, cap, cur, h1, h2, by rw [hb.block g (Array.getElem?_eq_some_iff.1 h3).1]; exact h3, h4⟩
theorem fo.snoc {w : World} {base n : Nat} {v : Value} {l : List ByteArray} {x : ByteArray} (h : w.ownsRow base 9 1 v (n + 1) (gQ l ++ [.string x])) (hn : n = l.length) : fo w base v (l ++ [x]) := by
 subst hn
 have : gQ (l ++ [x]) = gQ l ++ [.string x] := by simp [gQ]
 unfold fo
 rw [this, List.length_append]
 exact h
theorem fo.shape {w : World} {base : Nat} {v : Value} {l : List ByteArray} (h : fo w base v l) : ∃ a cap, v = .slice a l.length cap := by
 obtain ⟨a, cap, h, _⟩ := SS.own h
 exact ⟨a, cap, h⟩
theorem own_rowS {w : World} {base n : Nat} {e : TypeId} {size : Nat} {v : Value} {xs : List Value} (h : w.ownsRow base e size v n xs) : ∀ k, v.ownBlock = some k → base ≤ k := fun k hk => (h.lt k hk).1
end Go.Proofs.YtclcgakfmcofaaaGreatDoor
namespace Go.Proofs.YtclcgakfmcofaaaGreatDoor
open Go.RowKit
theorem hidD {p : Prop} (h : p) : Hid p := h
theorem ba_app (a b : List UInt8) : ba a ++ ba b = ba (a ++ b) := by apply bT; show L _ = L _; rw [L_app, iV, iV, iV]
theorem gi (l : List UInt8) : (ba l).size = l.length := by rw [← dd, iV]
theorem add_ba (a b : List UInt8) (h : a.length + b.length ≤ 100000) (W : World) : (Op.stringOp .add (ba a) (ba b)).run Tryz.prog W = .ok (.string (ba (a ++ b))) W := by
 rw [← ba_app]
 exact run_string_add_sum W _ _ (by rw [gi, gi]; omega)
theorem words_any (w : World) : Calls Tryz.prog 153 #[] w fun e w' => e = .returned (.slice (some ⟨w.heap.size, 0, none⟩) 29 29) ∧ (∀ k, k < 29 → w'.cell? ⟨w.heap.size, k, none⟩ = some (.string (ba (im.getD (k + 2) [])))) ∧ Below w.heap.size w w' := by
 go_enter Tryz.func153, Tryz.ntmps153
 go_wp2
 go_ret
 refine ⟨rfl, fun k hk => ?_, (Below.refl _ _).alloc (Nat.le_refl _) _⟩
 rw [World.cell?_alloc_new]
 show (((im.drop 2).map fun l => Value.string (ba l)).toArray)[k]? = _
 have hl : k + 2 < im.length := by show k + 2 < 31; omega
 simp [List.getElem?_eq_getElem hl]
 rw [Nat.add_comm 2 k]
 simp [List.getElem?_eq_getElem hl]
end Go.Proofs.YtclcgakfmcofaaaGreatDoor
namespace Go.Proofs.YtclcgakfmcofaaaGreatDoor
open Go.Lib Go.RowKit
theorem take_byte (s : ByteArray) (k : Nat) (h : k < s.size) : (L s).take (k + 1) = (L s).take k ++ [s[k]] := by
 rw [List.take_add_one]
 have : (L s)[k]? = some s[k] := by
  have e := dy s k h
  have : (s.data.toList.drop k)[0]? = some s[k] := by rw [e]; rfl
  rw [List.getElem?_drop] at this
  simpa using this
 rw [this]
 rfl
theorem lx (l r : List UInt8) : ∀ acc, decFrom acc (l ++ r) = (decFrom acc l).bind fun n => decFrom n r := by
 induction l with
 | nil => intro acc; rfl
 | cons b l ih =>
  intro acc
  simp only [List.cons_append, decFrom]
  cases digitVal b with
  | none => rfl
  | some d => exact ih _
theorem dec_step (s : ByteArray) (k x : Nat) (h : k < s.size) (hd : decFrom 0 ((L s).take k) = some x) (h0 : 48 ≤ s[k].toNat) (h1 : s[k].toNat ≤ 57) : decFrom 0 ((L s).take (k + 1)) = some (x * 10 + (s[k].toNat - 48)) := by
 rw [take_byte s k h, lx, hd, Option.bind_some]
 simp only [decFrom, digitVal]
 rw [if_pos ⟨h0, h1⟩]
theorem lX (s : ByteArray) (k : Nat) (h : k < s.size) (hb : s[k].toNat < 48 ∨ 57 < s[k].toNat) : decFrom 0 (L s) = none := by
 have e : L s = (L s).take k ++ (s[k] :: (L s).drop (k + 1)) := by rw [← dy s k h]; exact (List.take_append_drop k _).symm
 rw [e, lx]
 cases decFrom 0 ((L s).take k) with
 | none => rfl
 | some n =>
  simp only [Option.bind_some, decFrom, digitVal]
  rw [if_neg (by omega)]
theorem dec_all (s : ByteArray) (k x : Nat) (h : s.size ≤ k) (hd : decFrom 0 ((L s).take k) = some x) : decFrom 0 (L s) = some x := by
 rw [List.take_of_length_le (by rw [dd]; exact h)] at hd
 exact hd
theorem eE (s : ByteArray) (h : 0 < s.size) : (L s).head? = some s[0] := by
 have := dy s 0 h
 simp only [List.drop_zero] at this
 show (s.data.toList).head? = _
 rw [this]
 rfl
theorem eU (c : UInt8) (n : Nat) (hn : n < 256) : (c = UInt8.ofNat n) ↔ c.toNat = n := by
 constructor
 ·rintro rfl; simp; omega
 ·intro h; rw [← h]; simp
theorem empty_size {s : ByteArray} (h : s.toList.isEmpty = true) : s.size = 0 := by
 rw [ByteArray.toList_eq, List.isEmpty_iff] at h
 rw [← dd]
 exact congrArg List.length h
theorem oQ {s : ByteArray} (h : s.size ≠ 0) : s.toList.isEmpty = false := by
 cases hb : s.toList.isEmpty with
 | false => rfl
 | true => exact absurd (empty_size hb) h
def gj (r : Option Int) (e : Ending) : Prop := e = .returned (.tuple #[.int .i64 (r.getD 0), .bool r.isSome])
theorem bO {r : Option Int} (h : r = none) : gj r (.returned (.tuple #[.int .i64 0, .bool false])) := by subst h; rfl
theorem oR {r : Option Int} {n : Int} (h : r = some n) : gj r (.returned (.tuple #[.int .i64 n, .bool true])) := by subst h; rfl
theorem pow_step (k x : Nat) (h : x < 10 ^ k) (d : Nat) (hd : d < 10) : x * 10 + d < 10 ^ (k + 1) := by rw [Nat.pow_succ]; omega
theorem oS (k x : Nat) (h : x < 10 ^ k) (hk : k ≤ 18) : x < 1000000000000000000 :=
 Nat.lt_of_lt_of_le h (Nat.pow_le_pow_right (by omega) hk)
def NumL (s : ByteArray) (k x : Nat) : Prop := decFrom 0 ((L s).take k) = some x ∧ x < 10 ^ k
theorem neg_back (x : Int) (h0 : 0 ≤ x) (h1 : x ≤ 9223372036854775808) : wrap64 (IntKind.u64.wrap (bits .xor .u64 IntKind.u64.max x + 1)) = -x := by
 rw [lT _ (by omega) (by omega), IntKind.wrap_u64]
 unfold wrap64
 omega
theorem number_pos (s : ByteArray) (w : World) (hl : s.size ≤ 600) (h45 : ∀ h : 0 < s.size, s[0].toNat ≠ 45) :
  Calls Tryz.prog 152 #[.string s] w fun e w' => gj (da (L s)) e ∧ w' = w := by
 by_cases h0 : s.size = 0
 ·have hs : s = ⟨#[]⟩ := by apply bT; show L s = []; exact List.length_eq_zero_iff.1 (by rw [dd]; exact h0)
  subst hs
  have HR : Hid (gj (da (L ⟨#[]⟩)) _) := bO (by unfold da; rw [if_pos (.inl rfl)])
  go_enter Tryz.func152, Tryz.ntmps152
  go_wp2
  go_ret2
  exact ⟨HR.out, rfl⟩
 have hp : 0 < s.size := by omega
 have hpi : (0 : Int) < (s.size : Int) := by omega
 have h45' := h45 hp
 have hb45 : ((s[0].toNat : Int) == 45) = false := beq_eq_false_iff_ne.2 (by omega)
 have hne := oQ h0
 by_cases h19 : 19 < s.size
 ·have HR : Hid (gj (da (L s)) _) := bO (by unfold da; rw [if_pos (.inr (.inl (by rw [dd]; exact h19)))])
  have h19i : (19 : Int) < (s.size : Int) := by omega
  clear h45
  go_enter Tryz.func152, Tryz.ntmps152
  go_wp2
  go_ret2
  exact ⟨HR.out, rfl⟩
 have h19i : (s.size : Int) ≤ 19 := by omega
 by_cases h48 : s[0].toNat = 48 ∧ 1 < s.size
 ·obtain ⟨h48, h1⟩ := h48
  have HR : Hid (gj (da (L s)) _) := bO (by unfold da; rw [if_pos (.inr (.inr ⟨by rw [eE s hp]; congr 1; exact (eU _ 48 (by omega)).2 h48, by rw [dd]; exact h1⟩))])
  have hb48 : ((s[0].toNat : Int) == 48) = true := beq_iff_eq.2 (by omega)
  have h1i : (1 : Int) < (s.size : Int) := by omega
  clear h45
  go_enter Tryz.func152, Tryz.ntmps152
  go_wp2
  go_ret2
  exact ⟨HR.out, rfl⟩
 have hR : da (L s) = (decFrom 0 (L s)).bind fun u => if 9223372036854775808 ≤ u then none else some (u : Int) := by
  unfold da
  rw [if_neg]
  rintro (h | h | ⟨h, h'⟩)
  ·exact h0 (by rw [← dd, h]; rfl)
  ·rw [dd] at h; omega
  ·rw [eE s hp] at h
   rw [dd] at h'
   exact h48 ⟨(eU _ 48 (by omega)).1 (Option.some.inj h), h'⟩
 have HR := hidD hR
 clear hR h45
 have hway : ((s[0].toNat : Int) == 48) = false ∨ (((s[0].toNat : Int) == 48) = true ∧ (s.size : Int) ≤ 1) := by
  by_cases h : s[0].toNat = 48
  ·exact .inr ⟨beq_iff_eq.2 (by omega), by omega⟩
  ·exact .inl (beq_eq_false_iff_ne.2 (by omega))
 rcases hway with hb48 | ⟨hb48, h1i⟩
 all_goals
  go_enter Tryz.func152, Tryz.ntmps152
  go_wp2
  go_loop [6, 7] (fun u i => ∃ (k : Nat) (x : Int), k ≤ s.size ∧ i = .int .i64 k ∧ u = .int .u64 x ∧ 0 ≤ x ∧ Hid (NumL s k x.toNat)) (fun _ i => s.size - (intOf i).toNat)
  case atStart => exact ⟨0, 0, by omega, rfl, rfl, by omega, ⟨by simp [decFrom], by decide⟩⟩
  case round =>
   obtain ⟨k, x, hk, rfl, rfl, hx0, HX⟩ := hrel
   by_cases hlt : k < s.size
   ·have hlti : (k : Int) < (s.size : Int) := by omega
    have hxs : x < 1000000000000000000 := by have := oS k x.toNat HX.out.2 (by omega); omega
    have hc1 : s[k].toNat < 256 := s[k].toNat_lt
    by_cases hlo : s[k].toNat < 48
    ·have HF : Hid (gj (da (L s)) _) := bO (by rw [HR.out, lX s k hlt (.inl hlo)]; rfl)
     have hloi : (s[k].toNat : Int) < 48 := by omega
     clear HX
     go_wp2
     go_ret2
     exact ⟨HF.out, rfl⟩
    have hloi : (48 : Int) ≤ (s[k].toNat : Int) := by omega
    by_cases hhi : 57 < s[k].toNat
    ·have HF : Hid (gj (da (L s)) _) := bO (by rw [HR.out, lX s k hlt (.inr hhi)]; rfl)
     have hhii : (57 : Int) < (s[k].toNat : Int) := by omega
     clear HX
     go_wp2
     go_ret2
     exact ⟨HF.out, rfl⟩
    have hhii : (s[k].toNat : Int) ≤ 57 := by omega
    have HX2 : Hid (NumL s (k + 1) (x * 10 + ((s[k].toNat : Int) - 48)).toNat) := by
     rw [show (x * 10 + ((s[k].toNat : Int) - 48)).toNat = x.toNat * 10 + (s[k].toNat - 48) by omega]
     exact ⟨dec_step s k x.toNat hlt HX.out.1 (by omega) (by omega), pow_step k x.toNat HX.out.2 _ (by omega)⟩
    clear HX
    go_wp2
    go_round
    case rel => exact ⟨k + 1, _, by omega, by go_num, rfl, by omega, HX2⟩
    case measure => simp [intOf]; omega
   ·have hlt' : s.size ≤ k := by omega
    have hd := dec_all s k x.toNat hlt' HX.out.1
    have hks : k = s.size := by omega
    by_cases hbig : 9223372036854775808 ≤ x.toNat
    ·have HF : Hid (gj (da (L s)) _) := bO (by rw [HR.out, hd, Option.bind_some, if_pos hbig])
     have hbi : (9223372036854775808 : Int) ≤ x := by omega
     clear hbig hd HX
     go_wp2
     go_ret2
     exact ⟨HF.out, rfl⟩
    ·have HF : Hid (gj (da (L s)) _) := oR (n := x) (by rw [HR.out, hd, Option.bind_some, if_neg hbig, Int.toNat_of_nonneg hx0])
     have hbi : (x : Int) < 9223372036854775808 := by omega
     clear hbig hd HX
     go_wp2
     go_ret2
     exact ⟨HF.out, rfl⟩
theorem number_neg (s0 s : ByteArray) (w : World) (hl : s.size ≤ 600) (hs0 : s0.size = s.size + 1) (h45 : ∀ h : 0 < s0.size, s0[0].toNat = 45) (hx : s0.extract 1 (s.size + 1) = s) :
  Calls Tryz.prog 152 #[.string s0] w fun e w' => gj (cZ (L s)) e ∧ w' = w := by
 have hp0 : 0 < s0.size := by omega
 have hpi0 : (0 : Int) < (s0.size : Int) := by omega
 have hb45 : ((s0[0].toNat : Int) == 45) = true := beq_iff_eq.2 (by have := h45 hp0; omega)
 clear h45
 by_cases h0 : s.size = 0
 ·have hs : s = ⟨#[]⟩ := by apply bT; show L s = []; exact List.length_eq_zero_iff.1 (by rw [dd]; exact h0)
  subst hs
  have HR : Hid (gj (cZ (L ⟨#[]⟩)) _) := bO (by unfold cZ; rw [if_pos (.inl rfl)])
  go_enter Tryz.func152, Tryz.ntmps152
  go_wp2
  go_ret2
  exact ⟨HR.out, rfl⟩
 have hp : 0 < s.size := by omega
 have hpi : (0 : Int) < (s.size : Int) := by omega
 have hne := oQ h0
 by_cases h19 : 19 < s.size
 ·have HR : Hid (gj (cZ (L s)) _) := bO (by unfold cZ; rw [if_pos (.inr (.inl (by rw [dd]; exact h19)))])
  have h19i : (19 : Int) < (s.size : Int) := by omega
  go_enter Tryz.func152, Tryz.ntmps152
  go_wp2
  go_ret2
  exact ⟨HR.out, rfl⟩
 have h19i : (s.size : Int) ≤ 19 := by omega
 by_cases h48 : s[0].toNat = 48
 ·have HR : Hid (gj (cZ (L s)) _) := bO (by unfold cZ; rw [if_pos (.inr (.inr (by rw [eE s hp]; congr 1; exact (eU _ 48 (by omega)).2 h48)))])
  have hb48 : ((s[0].toNat : Int) == 48) = true := beq_iff_eq.2 (by omega)
  go_enter Tryz.func152, Tryz.ntmps152
  go_wp2
  all_goals
   go_ret2
   exact ⟨HR.out, rfl⟩
 have hR : cZ (L s) = (decFrom 0 (L s)).bind fun u => if 9223372036854775808 < u then none else some (-(u : Int)) := by
  unfold cZ
  rw [if_neg]
  rintro (h | h | h)
  ·exact h0 (by rw [← dd, h]; rfl)
  ·rw [dd] at h; omega
  ·rw [eE s hp] at h
   exact h48 ((eU _ 48 (by omega)).1 (Option.some.inj h))
 have HR := hidD hR
 clear hR
 have hb48 : ((s[0].toNat : Int) == 48) = false := beq_eq_false_iff_ne.2 (by omega)
 refine id ?_
 all_goals
  go_enter Tryz.func152, Tryz.ntmps152
  go_wp2
  go_loop [6, 7] (fun u i => ∃ (k : Nat) (x : Int), k ≤ s.size ∧ i = .int .i64 k ∧ u = .int .u64 x ∧ 0 ≤ x ∧ Hid (NumL s k x.toNat)) (fun _ i => s.size - (intOf i).toNat)
  case atStart => exact ⟨0, 0, by omega, rfl, rfl, by omega, ⟨by simp [decFrom], by decide⟩⟩
  case round =>
   obtain ⟨k, x, hk, rfl, rfl, hx0, HX⟩ := hrel
   by_cases hlt : k < s.size
   ·have hlti : (k : Int) < (s.size : Int) := by omega
    have hxs : x < 1000000000000000000 := by have := oS k x.toNat HX.out.2 (by omega); omega
    have hc1 : s[k].toNat < 256 := s[k].toNat_lt
    by_cases hlo : s[k].toNat < 48
    ·have HF : Hid (gj (cZ (L s)) _) := bO (by rw [HR.out, lX s k hlt (.inl hlo)]; rfl)
     have hloi : (s[k].toNat : Int) < 48 := by omega
     clear HX
     go_wp2
     go_ret2
     exact ⟨HF.out, rfl⟩
    have hloi : (48 : Int) ≤ (s[k].toNat : Int) := by omega
    by_cases hhi : 57 < s[k].toNat
    ·have HF : Hid (gj (cZ (L s)) _) := bO (by rw [HR.out, lX s k hlt (.inr hhi)]; rfl)
     have hhii : (57 : Int) < (s[k].toNat : Int) := by omega
     clear HX
     go_wp2
     go_ret2
     exact ⟨HF.out, rfl⟩
    have hhii : (s[k].toNat : Int) ≤ 57 := by omega
    have HX2 : Hid (NumL s (k + 1) (x * 10 + ((s[k].toNat : Int) - 48)).toNat) := by
     rw [show (x * 10 + ((s[k].toNat : Int) - 48)).toNat = x.toNat * 10 + (s[k].toNat - 48) by omega]
     exact ⟨dec_step s k x.toNat hlt HX.out.1 (by omega) (by omega), pow_step k x.toNat HX.out.2 _ (by omega)⟩
    clear HX
    go_wp2
    go_round
    case rel => exact ⟨k + 1, _, by omega, by go_num, rfl, by omega, HX2⟩
    case measure => simp [intOf]; omega
   ·have hlt' : s.size ≤ k := by omega
    have hd := dec_all s k x.toNat hlt' HX.out.1
    have hks : k = s.size := by omega
    by_cases hbig : 9223372036854775808 < x.toNat
    ·have HF : Hid (gj (cZ (L s)) _) := bO (by rw [HR.out, hd, Option.bind_some, if_pos hbig])
     have hbi : (9223372036854775808 : Int) < x := by omega
     clear hbig hd HX
     go_wp2
     go_ret2
     exact ⟨HF.out, rfl⟩
    ·have HF : Hid (gj (cZ (L s)) _) := oR (n := -x) (by rw [HR.out, hd, Option.bind_some, if_neg hbig, Int.toNat_of_nonneg hx0])
     have hbi : (x : Int) ≤ 9223372036854775808 := by omega
     have hcv : wrap64 (IntKind.u64.wrap (bits .xor .u64 IntKind.u64.max x + 1)) = -x := neg_back x hx0 hbi
     clear hbig hd HX
     go_wp2
     go_ret2
     exact ⟨HF.out, rfl⟩
theorem number_any (t : List UInt8) (w : World) (hl : t.length ≤ 512) : Calls Tryz.prog 152 #[.string (ba t)] w fun e w' => gj (ch t) e ∧ w' = w := by
 rw [← oq]
 unfold iU
 by_cases h : t.head? = some 45
 ·rw [if_pos h]
  cases t with
  | nil => simp at h
  | cons c t =>
   simp at h
   subst h
   have := number_neg (ba (45 :: t)) (ba t) w (by rw [gi]; simp at hl; omega) (by rw [gi, gi]; simp) (fun h => by
    have e := eE _ h
    rw [iV] at e
    simp at e
    rw [← e]
    rfl) (by
    apply bT
    show L _ = L _
    rw [L_ext, iV, iV, gi]
    simp)
   rw [iV] at this
   simpa using this
 ·rw [if_neg h]
  have := number_pos (ba t) w (by rw [gi]; omega) (fun h' e => h (by
   have e2 := eE _ h'
   rw [iV] at e2
   rw [e2]
   congr 1
   exact (eU _ 45 (by omega)).2 e))
  rw [iV] at this
  exact this
end Go.Proofs.YtclcgakfmcofaaaGreatDoor
namespace Go.Proofs.YtclcgakfmcofaaaGreatDoor
open Go.RowKit
theorem Tryz.infoStr : (Tryz.prog.info? 9).map (fun i => (i.zero, i.size, i.bytes)) = some (some (.string ⟨#[]⟩), 1, 16) := by kernel_rfl
theorem one_strS (s : ByteArray) : ∀ u ∈ [Value.string s], u.oneCell' = true := by intro u hu; simp at hu; subst hu; rfl
theorem ext_one (s : ByteArray) (k : Nat) (h : k < s.size) : s.extract k (k + 1) = ba [s[k]] := by
 apply bT
 show L _ = L _
 rw [L_ext, iV]
 have := dy s k h
 rw [show (L s).drop k = s[k] :: (L s).drop (k + 1) from this]
 simp
theorem blank_of (c : UInt8) : cm c = (((c.toNat : Int) == 32) || ((c.toNat : Int) == 10)) := by
 have h1 : (c == 32) = ((c.toNat : Int) == 32) := by
  by_cases h : c = 32
  ·subst h; rfl
  ·rw [beq_eq_false_iff_ne.2 h, beq_eq_false_iff_ne.2]
   intro e
   exact h ((eU c 32 (by omega)).2 (by omega))
 have h2 : (c == 10) = ((c.toNat : Int) == 10) := by
  by_cases h : c = 10
  ·subst h; rfl
  ·rw [beq_eq_false_iff_ne.2 h, beq_eq_false_iff_ne.2]
   intro e
   exact h ((eU c 10 (by omega)).2 (by omega))
 unfold cm
 rw [h1, h2]
def SplL (s : ByteArray) (k : Nat) (done : List (List UInt8)) (acc : List UInt8) : Prop :=
 acc.length ≤ k ∧ done.length ≤ k ∧ ((k ≤ s.size ∧ aD [] (L s) = done ++ aD acc ((L s).drop k)) ∨ (k = s.size + 1 ∧ aD [] (L s) = done))
theorem spl_end {s : ByteArray} {done : List (List UInt8)} {acc : List UInt8} (h : SplL s s.size done acc) : SplL s (s.size + 1) (if acc = [] then done else done ++ [acc]) [] := by
 obtain ⟨h1, h2, h3⟩ := h
 rcases h3 with ⟨_, h3⟩ | ⟨h3, _⟩
 ·rw [List.drop_of_length_le (by rw [dd]; exact Nat.le_refl _)] at h3
  refine ⟨by simp, ?_, .inr ⟨rfl, ?_⟩⟩
  ·split
   ·omega
   ·simp; exact h2
  ·rw [h3]
   simp only [aD]
   split <;> simp
 ·omega
theorem spl_blank {s : ByteArray} {k : Nat} {done : List (List UInt8)} {acc : List UInt8} (h : SplL s k done acc) (hk : k < s.size) (hb : cm s[k] = true) : SplL s (k + 1) (if acc = [] then done else done ++ [acc]) [] := by
 obtain ⟨h1, h2, h3⟩ := h
 rcases h3 with ⟨_, h3⟩ | ⟨h3, _⟩
 ·rw [show (L s).drop k = s[k] :: (L s).drop (k + 1) from dy s k hk, aD, if_pos hb] at h3
  refine ⟨by simp, ?_, .inl ⟨by omega, ?_⟩⟩
  ·split
   ·omega
   ·simp; exact h2
  ·rw [h3]
   split <;> simp
 ·omega
theorem spl_more {s : ByteArray} {k : Nat} {done : List (List UInt8)} {acc : List UInt8} (h : SplL s k done acc) (hk : k < s.size) (hb : cm s[k] = false) : SplL s (k + 1) done (acc ++ [s[k]]) := by
 obtain ⟨h1, h2, h3⟩ := h
 rcases h3 with ⟨_, h3⟩ | ⟨h3, _⟩
 ·rw [show (L s).drop k = s[k] :: (L s).drop (k + 1) from dy s k hk, aD, if_neg (by rw [hb]; simp)] at h3
  exact ⟨by simp; exact h1, by omega, .inl ⟨by omega, h3⟩⟩
 ·omega
theorem spl_done {s : ByteArray} {k : Nat} {done : List (List UInt8)} {acc : List UInt8} (h : SplL s k done acc) (hk : s.size < k) : aD [] (L s) = done := by
 obtain ⟨_, _, ⟨h3, _⟩ | ⟨_, h3⟩⟩ := h
 ·omega
 ·exact h3
structure Sp (B : Nat) (w : World) (v : Value) (wl : List ByteArray) (wr : World) : Prop where
 own : fo wr B v wl
 bel : Below B w wr
 size : B ≤ wr.heap.size
theorem Sp.app {B : Nat} {w wr w2 : World} {v v2 : Value} {wl : List ByteArray} {x : ByteArray} (h : Sp B w v wl wr)
  (ho : w2.ownsRow B 9 1 v2 (wl.length + 1) (gQ wl ++ [.string x])) (hg : wr.grownBy w2 v.ownBlock) : Sp B w v2 (wl ++ [x]) w2 :=
 ⟨fo.snoc ho rfl, h.bel.grown hg h.size (own_rowS h.own), Nat.le_trans h.size hg.size⟩
theorem Sp.box {B : Nat} {w wr : World} {v : Value} {wl : List ByteArray} (h : Sp B w v wl wr) (o : Obj) : Sp B w v wl (wr.alloc o) :=
 ⟨fo.below h.own ((Below.refl _ _).alloc (Nat.le_refl _) _), h.bel.alloc h.size _, by simp; have := h.size; omega⟩
theorem split_any (s : ByteArray) (w : World) (hs : s.size ≤ 512) :
  Calls Tryz.prog 108 #[.string s] w fun e w' => ∃ v, e = .returned v ∧ fo w' w.heap.size v (kE s) ∧ Below w.heap.size w w' := by
 obtain ⟨i9, hi, hz0, hz1, hz2⟩ := info_parts Tryz.infoStr
 have hsi : (s.size : Int) ≤ 512 := by omega
 go_enter Tryz.func108, Tryz.ntmps108
 go_wp2
 go_loopw [3, 4, 5] (fun v x i wr => ∃ (k : Nat) (done : List (List UInt8)) (acc : List UInt8), k ≤ s.size + 1 ∧ i = .int .i64 k ∧ x = .string (ba acc) ∧ Hid (SplL s k done acc) ∧ Hid (Sp w.heap.size w v (done.map ba) wr)) (fun _ _ i _ => s.size + 1 - (intOf i).toNat)
 case atStart => exact ⟨0, [], [], by omega, rfl, rfl, ⟨by simp, by simp, .inl ⟨by omega, by simp⟩⟩, ⟨World.ownsRow_nil _ _ _ _, Below.refl _ _, Nat.le_refl _⟩⟩
 case round =>
  obtain ⟨k, done, acc, hk, rfl, rfl, HS, HP⟩ := hrel
  obtain ⟨a, cap, hv⟩ := fo.shape HP.out.own
  rw [List.length_map] at hv
  subst hv
  have hdl := HS.out.2.1
  have hsz := HP.out.size
  have hal := HS.out.1
  by_cases hend : s.size < k
  ·have hendi : (s.size : Int) < (k : Int) := by omega
   have HE : Hid (fo wr w.heap.size (.slice a done.length cap) (kE s)) := by
    unfold Hid kE
    rw [spl_done HS.out hend]
    exact HP.out.own
   go_wp2
   go_ret
   exact ⟨_, rfl, HE.out, HP.out.bel⟩
  have hki : (k : Int) ≤ (s.size : Int) := by omega
  by_cases hblank : k = s.size ∨ ∃ h : k < s.size, cm s[k] = true
  ·have HS2 : Hid (SplL s (k + 1) (if acc = [] then done else done ++ [acc]) []) := by
    rcases hblank with rfl | ⟨h, hb⟩
    ·exact spl_end HS.out
    ·exact spl_blank HS.out h hb
   have hway : ((k : Int) == (s.size : Int)) = true ∨ (∃ h : k < s.size, ((k : Int) == (s.size : Int)) = false ∧ ((s[k].toNat : Int) == 32) = true) ∨ (∃ h : k < s.size, ((k : Int) == (s.size : Int)) = false ∧ ((s[k].toNat : Int) == 32) = false ∧ ((s[k].toNat : Int) == 10) = true) := by
    rcases hblank with rfl | ⟨h, hb⟩
    ·exact .inl (beq_self_eq_true _)
    ·have hne : ((k : Int) == (s.size : Int)) = false := beq_eq_false_iff_ne.2 (by omega)
     rw [blank_of] at hb
     cases h32 : ((s[k].toNat : Int) == 32) with
     | true => exact .inr (.inl ⟨h, hne, h32⟩)
     | false =>
      rw [h32] at hb
      exact .inr (.inr ⟨h, hne, h32, by simpa using hb⟩)
   clear hblank HS
   by_cases hacc : acc = []
   ·rw [if_pos hacc] at HS2
    subst hacc
    rcases hway with h1 | ⟨hlt, h1, h2⟩ | ⟨hlt, h1, h2, h3⟩
    all_goals
     go_wp2
     go_roundw
     case rel => exact ⟨k + 1, done, [], by omega, by go_num, rfl, HS2, HP⟩
     case measure => simp [intOf]; omega
   ·rw [if_neg hacc] at HS2
    have hne : acc.isEmpty = false := by simpa using hacc
    have HP1 := hidD (HP.out.box (.cells #[.string (ba acc)] 9))
    have hl1 : done.length + 1 ≤ 600 := by omega
    clear hacc
    rcases hway with h1 | ⟨hlt, h1, h2⟩ | ⟨hlt, h1, h2, h3⟩
    all_goals
     go_wp2_with (at_builtin; refine wpList_append_own_at _ rfl _ _ 32 rfl w.heap.size 9 i9 _ 1 16 Tryz.underlying32 hi hz0 hz1 hz2 rfl (by decide) (.slice a done.length cap) done.length (gQ (done.map ba)) rfl ?caO ⟨wr.heap.size, 0, none⟩ 1 1 [.string (ba acc)] rfl rfl (cell_one_new _ _ _) (one_strS _) ?ca3 ?ca4 ?ca5 ?_)
     case caO => have := HP1.out.own; unfold fo at this; rw [List.length_map] at this; exact this
     case ca3 => unfold maxLen; omega
     case ca4 => omega
     case ca5 => simp; omega
     intro v2 w2 hown2 hgrow2 _ hat2
     have HP2 : Hid (Sp w.heap.size w v2 ((done ++ [acc]).map ba) w2) := by
      have := HP1.out.app (v2 := v2) (x := ba acc) (by rw [List.length_map]; simpa [gQ] using hown2) hgrow2
      simpa [Hid] using this
     clear hown2 hgrow2 hat2
     go_wp2
     go_roundw
     case rel => exact ⟨k + 1, done ++ [acc], [], by omega, by go_num, rfl, HS2, HP2⟩
     case measure => simp [intOf]; omega
  ·have hlt : k < s.size := by
    by_cases h : k = s.size
    ·exact absurd (.inl h) hblank
    ·omega
   have hb : cm s[k] = false := by
    cases h : cm s[k] with
    | false => rfl
    | true => exact absurd (.inr ⟨hlt, h⟩) hblank
   have HS2 := hidD (spl_more HS.out hlt hb)
   rw [blank_of, Bool.or_eq_false_iff] at hb
   obtain ⟨h32, h10⟩ := hb
   have hne : ((k : Int) == (s.size : Int)) = false := beq_eq_false_iff_ne.2 (by omega)
   have hex := ext_one s k hlt
   have hk1 : (k : Int) + 1 ≤ (s.size : Int) := by omega
   have hk2 : (k : Int) ≤ (k : Int) + 1 := by omega
   have hk3 : (0 : Int) ≤ (k : Int) := by omega
   have hadd := add_ba acc [s[k]] (by simp; omega)
   clear hblank HS
   go_wp2
   go_roundw
   case rel => exact ⟨k + 1, done, acc ++ [s[k]], by omega, by go_num, rfl, HS2, HP⟩
   case measure => simp [intOf]; omega
def RP (w : World) (R G : Nat) (ws : List (List UInt8)) (m : Nat) : Prop :=
 G ≠ R ∧ G < w.heap.size ∧ ∃ a cap o, w.heap[R]? = some (.cells #[.slice a ws.length cap, .int .i64 m] 175 (0, 0)) ∧ ws.length ≤ cap ∧ (ws = [] ∨ a = some ⟨G, o, none⟩) ∧ jb w G o (ws.map ba)
theorem RP.lt {w : World} {R G m : Nat} {ws : List (List UInt8)} (h : RP w R G ws m) : R < w.heap.size := by
 obtain ⟨_, _, a, cap, o, hb, _⟩ := h
 exact (Array.getElem?_eq_some_iff.1 hb).1
theorem RP.keep {w w' : World} {R G m : Nat} {ws : List (List UInt8)} (h : RP w R G ws m) (hR : w'.heap[R]? = w.heap[R]?) (hG : w'.heap[G]? = w.heap[G]?) (hs : w.heap.size ≤ w'.heap.size) : RP w' R G ws m := by
 obtain ⟨h1, h2, a, cap, o, hb, hc, ha, hst⟩ := h
 refine ⟨h1, by omega, a, cap, o, by rw [hR]; exact hb, hc, ha, fun i x hx => ?_⟩
 rw [World.cell?_of_block (a := ⟨G, o + i, none⟩) hG]
 exact hst i x hx
theorem RP.below {w w' : World} {R G m : Nat} {ws : List (List UInt8)} (h : RP w R G ws m) (hb : Below w.heap.size w w') : RP w' R G ws m := h.keep (hb.block _ h.lt) (hb.block _ h.2.1) hb.size
theorem rp_step {w : World} {R G m o cap cap' : Nat} {x : List UInt8} {ws : List (List UInt8)} {a a' : Option Addr} (hGR : G ≠ R) (hG : G < w.heap.size) (hb : w.heap[R]? = some (.cells #[.slice a (x :: ws).length cap, .int .i64 m] 175 (0, 0)))
  (hst : jb w G o ((x :: ws).map ba)) (ha : ws = [] ∨ a' = some ⟨G, o + 1, none⟩) (hc : ws.length ≤ cap') :
  w.grownBy (w.setCell ⟨R, 0, none⟩ (.slice a' ws.length cap')) (some R) ∧ RP (w.setCell ⟨R, 0, none⟩ (.slice a' ws.length cap')) R G ws m := by
 refine ⟨⟨rfl, rfl, rfl, by simp [World.setCell], fun k hk hne => Below.heap_setCell _ _ _ _ (fun e => hne (by rw [e]))⟩, hGR, by simpa [World.setCell] using hG, a', cap', o + 1, ?_, hc, ha, fun i y hy => ?_⟩
 ·show (w.heap.modify _ _)[R]? = _
  rw [Array.getElem?_modify, hb]
  simp
 ·have := hst (i + 1) y (by simpa using hy)
  have e : (w.setCell ⟨R, 0, none⟩ (.slice a' ws.length cap')).cell? ⟨G, o + 1 + i, none⟩ = w.cell? ⟨G, o + 1 + i, none⟩ :=
   World.cell?_of_block (a := ⟨G, o + 1 + i, none⟩) (Below.heap_setCell _ _ _ _ hGR)
  rw [e, show o + 1 + i = o + (i + 1) by omega]
  exact this
theorem rp_many {w : World} {R G m : Nat} {ws : List (List UInt8)} (h : RP w R G ws m) (m' : Nat) : RP (w.setCell ⟨R, 1, none⟩ (.int .i64 (m' : Int))) R G ws m' := by
 obtain ⟨h1, h2, a, cap, o, hb, hc, ha, hst⟩ := h
 refine ⟨h1, by simpa [World.setCell] using h2, a, cap, o, ?_, hc, ha, fun i x hx => ?_⟩
 ·show (w.heap.modify _ _)[R]? = _
  rw [Array.getElem?_modify, hb]
  simp
 ·rw [World.cell?_of_block (a := ⟨G, o + i, none⟩) (Below.heap_setCell _ _ _ _ h1)]
  exact hst i x hx
theorem RP.cell1 {w : World} {R G m : Nat} {ws : List (List UInt8)} (h : RP w R G ws m) : w.cell? ⟨R, 1, none⟩ = some (.int .i64 m) ∧ w.frozen? ⟨R, 1, none⟩ = false := by
 obtain ⟨h1, h2, a, cap, o, hb, _⟩ := h
 constructor <;> simp [World.cell?, World.frozen?, hb]
theorem RP.set {w : World} {R G m b q : Nat} {ws : List (List UInt8)} (h : RP w R G ws m) (hR : b ≠ R) (hG : b ≠ G) (u : Value) : RP (w.setCell ⟨b, q, none⟩ u) R G ws m :=
 h.keep (Below.heap_setCell _ _ _ _ (by show R ≠ b; omega)) (Below.heap_setCell _ _ _ _ (by show G ≠ b; omega)) (by simp [World.setCell])
theorem RP.cells {w : World} {R G m : Nat} {ws : List (List UInt8)} (h : RP w R G ws m) : ∃ a cap, w.cell? ⟨R, 0, none⟩ = some (.slice a ws.length cap) ∧ w.frozen? ⟨R, 0, none⟩ = false ∧ ws.length ≤ cap := by
 obtain ⟨h1, h2, a, cap, o, hb, hc, _⟩ := h
 exact ⟨a, cap, by simp [World.cell?, hb], by simp [World.frozen?, hb], hc⟩
theorem RP.pop {w : World} {R G m : Nat} {x : List UInt8} {ws : List (List UInt8)} (h : RP w R G (x :: ws) m) : ∃ o cap, w.cell? ⟨R, 0, none⟩ = some (.slice (some ⟨G, o, none⟩) (ws.length + 1) cap) ∧ w.cell? ⟨G, o, none⟩ = some (.string (ba x)) ∧ ws.length + 1 ≤ cap ∧ w.frozen? ⟨R, 0, none⟩ = false ∧
  ∀ a' cap', (ws = [] ∨ a' = some ⟨G, o + 1, none⟩) → ws.length ≤ cap' → w.grownBy (w.setCell ⟨R, 0, none⟩ (.slice a' ws.length cap')) (some R) ∧ RP (w.setCell ⟨R, 0, none⟩ (.slice a' ws.length cap')) R G ws m := by
 obtain ⟨hGR, hG, a, cap, o, hb, hc, ha, hst⟩ := h
 rcases ha with ha | rfl
 ·simp at ha
 refine ⟨o, cap, by simp [World.cell?, hb], ?_, by simpa using hc, by simp [World.frozen?, hb], fun a' cap' h1 h2 => rp_step hGR hG hb hst h1 h2⟩
 have := hst 0 (ba x) rfl
 simpa using this
theorem oT (G o n cp : Nat) (h : n + 1 ≤ cp) : ∃ a', (n = 0 ∨ a' = some ⟨G, o + 1, none⟩) ∧ ∀ W, (Instr.slice 32 (.slice (some ⟨G, o, none⟩) (n + 1) cp) (some (.int .i64 1)) none none).run Tryz.prog W = .ok (.slice a' n (cp - 1)) W := by
 have hz := Tryz.sizeOf9
 have hr := fun W => run_slice_l (P := Tryz.prog) W 32 (some ⟨G, o, none⟩) (n + 1) cp Tryz.underlying32 .i64 1 (by omega) (by omega)
 have he : Tryz.prog.elem 32 = 9 := by kernel_rfl
 by_cases hc : cp = 1
 ·refine ⟨some ⟨G, o, none⟩, .inl (by omega), fun W => ?_⟩
  rw [hr, he, hz]
  simp [sliced, hc]
 ·refine ⟨some ⟨G, o + 1, none⟩, .inr rfl, fun W => ?_⟩
  rw [hr, he, hz]
  simp [sliced, hc, Addr.add]
def LResP (R G : Nat) (w w' : World) (e : Ending) : Rs → Prop
 | .err c => e = .returned (.tuple #[.slice none 0 0, .int .i64 c]) ∧ c ≠ 0
 | .ok f ws' m' => ∃ v, e = .returned (.tuple #[v, .int .i64 0]) ∧ dI w.heap.size w' v f ∧ RP w' R G ws' m'
def LRP (R G d : Nat) (ws : List (List UInt8)) (m : Nat) (w : World) (e : Ending) (w' : World) : Prop := ∃ r, PL d ws m r ∧ w.grownBy w' (some R) ∧ LResP R G w w' e r
def ListP (N : Nat) : Prop := ∀ (ws : List (List UInt8)) (d m R G : Nat) (w : World), ws.length < N → d ≤ 6 → m ≤ 128 → WW ws → RP w R G ws m →
 Calls Tryz.prog 109 #[.pointer (some ⟨R, 0, none⟩), .int .i64 d] w fun e w' => LRP R G d ws m w e w'
structure LP (R G d : Nat) (ws0 : List (List UInt8)) (m0 : Nat) (w : World) (ws : List (List UInt8)) (m : Nat) (v : Value) (wr : World) : Prop where
 own : ∃ acc, dI w.heap.size wr v acc ∧ acc.len ≤ m ∧ ∀ r, PL d ws m r → PL d ws0 m0 (r.pre acc)
 grown : w.grownBy wr (some R)
 rb : RP wr R G ws m
 ww : WW ws
 many : m ≤ 128
theorem lp_next {R G d m0 m' : Nat} {ws0 ws' : List (List UInt8)} {w W4 w3 : World} {v v3 sv : Value} {acc bb : Fo} {l : List Ro} {k n : Int} (hRl : R < w.heap.size) (hGl : G < w.heap.size)
  (hol : W4.ownsRow w.heap.size 230 3 v l.length (ef l)) (hrl : Rows' (QX w.heap.size v) W4 l acc) (hg4 : w.grownBy W4 (some R)) (hr4 : RP W4 R G ws' m') (hww : WW ws') (hm : m' ≤ 128) (hacc : acc.len + 1 ≤ m')
  (hpl : ∀ r, PL d ws' m' r → PL d ws0 m0 (r.pre (acc.app (one k n bb)))) (hin : FS (QX w.heap.size v) (W4.alloc (.cells #[.int .i64 k, .int .i64 n, sv] 230)) sv bb)
  (hown3 : w3.ownsRow w.heap.size 230 3 v3 (l.length + 1) (ef l ++ [.int .i64 k, .int .i64 n, sv])) (hgrow3 : (W4.alloc (.cells #[.int .i64 k, .int .i64 n, sv] 230)).grownBy w3 v.ownBlock)
  (hat3 : v3.ownBlock = v.ownBlock ∨ v3.ownBlock = some (W4.alloc (.cells #[.int .i64 k, .int .i64 n, sv] 230)).heap.size) : LP R G d ws0 m0 w ws' m' v3 w3 := by
 have H3 := (Below.refl W4.heap.size W4).alloc (Nat.le_refl _) (.cells #[.int .i64 k, .int .i64 n, sv] 230)
 have hs4 := hg4.size
 have hnew := dI.snoc (fi hol H3) (mH hrl H3) hin hown3 hgrow3 hat3
 have hgn : w.grownBy w3 (some R) := by
  have hg3 := hg4.trans (eO H3 (some R))
  refine ⟨hgrow3.os.trans hg3.os, hgrow3.tape.trans hg3.tape, hgrow3.output.trans hg3.output, Nat.le_trans hg3.size hgrow3.size, fun j hj hne => (hgrow3.block j (by simp; omega) (fun e => ?_)).trans (hg3.block j hj hne)⟩
  have := jP hol j e.symm
  omega
 have hob : ∀ j, j < w.heap.size → w3.heap[j]? = W4.heap[j]? := fun j hj => (hgrow3.block j (by simp; omega) (fun e => by have := jP hol j e.symm; omega)).trans (H3.block j (by omega))
 exact ⟨⟨_, hnew, by rw [Fo.len_app]; simp only [Fo.len]; omega, hpl⟩, hgn, hr4.keep (hob R hRl) (hob G hGl) (by have := hgrow3.size; simp at this; omega), hww, hm⟩
structure jp (R G b : Nat) (ws : List (List UInt8)) (m : Nat) (k n : Int) (sv : Value) (wr W : World) : Prop where
 rp : RP W R G ws m
 blk : aA W b k n sv
 neR : b ≠ R
 neG : b ≠ G
 gr : wr.grownBy W (some R)
 sz : wr.heap.size ≤ b
theorem aA.put1 {W : World} {b : Nat} {k n : Int} {v : Value} (h : aA W b k n v) (n' : Int) : aA (W.setCell ⟨b, 1, none⟩ (.int .i64 n')) b k n' v := by
 unfold aA at h ⊢
 simp only [World.setCell, Array.getElem?_modify, h]
 simp
theorem aA.put0 {W : World} {b : Nat} {k n : Int} {v : Value} (h : aA W b k n v) (k' : Int) : aA (W.setCell ⟨b, 0, none⟩ (.int .i64 k')) b k' n v := by
 unfold aA at h ⊢
 simp only [World.setCell, Array.getElem?_modify, h]
 simp
theorem jp.new {R G m : Nat} {ws : List (List UInt8)} {wr W : World} (hr : RP W R G ws m) (hg : wr.grownBy W (some R)) (k n : Int) (sv : Value) : jp R G W.heap.size ws m k n sv wr (W.alloc (.cells #[.int .i64 k, .int .i64 n, sv] 230)) :=
 ⟨hr.below ((Below.refl _ _).alloc (Nat.le_refl _) _), aA.new _ _ _ _, by have := hr.lt; omega, by have := hr.2.1; omega, eP hg _, hg.size⟩
theorem jp.set1 {R G b m : Nat} {ws : List (List UInt8)} {k n : Int} {sv : Value} {wr W : World} (h : jp R G b ws m k n sv wr W) (n' : Int) : jp R G b ws m k n' sv wr (W.setCell ⟨b, 1, none⟩ (.int .i64 n')) :=
 ⟨h.rp.set h.neR h.neG _, h.blk.put1 n', h.neR, h.neG, gset h.gr h.sz _, h.sz⟩
theorem jp.set0 {R G b m : Nat} {ws : List (List UInt8)} {k n : Int} {sv : Value} {wr W : World} (h : jp R G b ws m k n sv wr W) (k' : Int) : jp R G b ws m k' n sv wr (W.setCell ⟨b, 0, none⟩ (.int .i64 k')) :=
 ⟨h.rp.set h.neR h.neG _, h.blk.put0 k', h.neR, h.neG, gset h.gr h.sz _, h.sz⟩
theorem jp.set2 {R G b m : Nat} {ws : List (List UInt8)} {k n : Int} {sv : Value} {wr W : World} (h : jp R G b ws m k n sv wr W) (sv' : Value) : jp R G b ws m k n sv' wr (W.setCell ⟨b, 2, none⟩ sv') :=
 ⟨h.rp.set h.neR h.neG _, h.blk.put2 sv', h.neR, h.neG, gset h.gr h.sz _, h.sz⟩
theorem jp.setM {R G b m : Nat} {ws : List (List UInt8)} {k n : Int} {sv : Value} {wr W : World} (h : jp R G b ws m k n sv wr W) : jp R G b ws (m + 1) k n sv wr (W.setCell ⟨R, 1, none⟩ (.int .i64 ((m : Int) + 1))) := by
 have := rp_many h.rp (m + 1)
 rw [show ((m + 1 : Nat) : Int) = (m : Int) + 1 by omega] at this
 exact ⟨this, h.blk.set h.neR _, h.neR, h.neG, gsetR h.gr _, h.sz⟩
theorem jp.call {R G b m : Nat} {ws : List (List UInt8)} {k n : Int} {sv : Value} {wr W W' : World} (h : jp R G b ws m k n sv wr W) (hb : Below W.heap.size W W') : jp R G b ws m k n sv wr W' :=
 ⟨h.rp.below hb, h.blk.step hb, h.neR, h.neG, gbel h.gr hb, h.sz⟩
theorem jp.deep {R G b m m' : Nat} {ws ws' : List (List UInt8)} {k n : Int} {sv : Value} {wr W W' : World} (h : jp R G b ws m k n sv wr W) (hg : W.grownBy W' (some R)) (hr : RP W' R G ws' m') : jp R G b ws' m' k n sv wr W' :=
 ⟨hr, h.blk.grown hg h.neR, h.neR, h.neG, h.gr.trans hg, h.sz⟩
theorem jp.pop {R G b m : Nat} {x : List UInt8} {ws : List (List UInt8)} {k n : Int} {sv : Value} {wr W : World} (h : jp R G b (x :: ws) m k n sv wr W) : ∃ o cap, W.cell? ⟨R, 0, none⟩ = some (.slice (some ⟨G, o, none⟩) (ws.length + 1) cap) ∧ W.cell? ⟨G, o, none⟩ = some (.string (ba x)) ∧ ws.length + 1 ≤ cap ∧ W.frozen? ⟨R, 0, none⟩ = false ∧
  ∀ a' cap', (ws = [] ∨ a' = some ⟨G, o + 1, none⟩) → ws.length ≤ cap' → jp R G b ws m k n sv wr (W.setCell ⟨R, 0, none⟩ (.slice a' ws.length cap')) := by
 obtain ⟨o, cap, c0, c1, hc, f0, hp⟩ := h.rp.pop
 refine ⟨o, cap, c0, c1, hc, f0, fun a' cap' h1 h2 => ?_⟩
 obtain ⟨hg, hr⟩ := hp a' cap' h1 h2
 exact h.deep hg hr
theorem jp.own {R G b m lo : Nat} {ws : List (List UInt8)} {k n : Int} {sv v : Value} {acc : Fo} {wr W : World} (h : jp R G b ws m k n sv wr W) (hR : R < lo) (ho : dI lo wr v acc) : dI lo W v acc :=
 ho.keep fun j hj hlt => h.gr.block j hlt (fun e => by injection e; omega)
theorem jp.cells {R G b m : Nat} {ws : List (List UInt8)} {k n : Int} {sv : Value} {wr W : World} (h : jp R G b ws m k n sv wr W) : (W.cell? ⟨R, 1, none⟩ = some (.int .i64 m) ∧ W.frozen? ⟨R, 1, none⟩ = false) ∧ (W.cell? ⟨b, 0, none⟩ = some (.int .i64 k) ∧ W.cell? ⟨b, 1, none⟩ = some (.int .i64 n) ∧ W.cell? ⟨b, 2, none⟩ = some sv) ∧ (W.frozen? ⟨b, 0, none⟩ = false ∧ W.frozen? ⟨b, 1, none⟩ = false ∧ W.frozen? ⟨b, 2, none⟩ = false) := ⟨h.rp.cell1, h.blk.cells, h.blk.free⟩
theorem opW_numR {l : List UInt8} {n : Int} (h : ch l = some n) : gL l = some (1, n) := by unfold gL; rw [num_no_kind h, h]; rfl
theorem new3s {w : World} {s : Nat} (h : w.heap.size = s) (x y z : Value) (T : TypeId) : (w.alloc (.cells #[x, y, z] T)).heap[s]? = some (.cells #[x, y, z] T (0, 0)) := by subst h; exact heap_alloc_new w _
theorem kind_foundR {x : List UInt8} {k : Nat} (hk : k < 29) (h : im.getD (k + 2) [] = x) (hn : ch x = none) : gL x = some ((k : Int) + 2, 0) := by
 have := kindOf_tab ⟨k + 2, by omega⟩ (by show 2 ≤ k + 2; omega)
 simp only at this
 rw [h] at this
 unfold gL
 rw [this]
 simp
theorem kind_noneR {x : List UInt8} (hx : x ≠ []) (h : ∀ j, j < 29 → im.getD (j + 2) [] ≠ x) (hn : ch x = none) : gL x = none := by
 unfold gL
 cases hk : bV x with
 | none => rw [hn]; rfl
 | some k =>
  obtain ⟨h1, h2⟩ := kF hk
  rcases k with _ | _ | k
  ·exact absurd h2.symm hx
  ·exact absurd h2.symm hx
  ·exact absurd h2 (h k (by omega))
theorem rlist_all : ∀ N, ListP N := by
 intro N
 induction N with
 | zero => intro ws d m R G w h; omega
 | succ N IH =>
  intro ws0 d m0 R G w hN hd hm0 hW0 hr0
  have HH := aj IH
  have hstart := aj (LP.mk (R := R) (G := G) (d := d) (ws0 := ws0) (m0 := m0) (w := w) (v := .slice none 0 0) ⟨.nil, dI.nil _ _, by simp [Fo.len], fun r hr => by rw [Rs.pre_nil]; exact hr⟩ (World.grownBy.refl w _) hr0 hW0 hm0)
  obtain ⟨i0, hi, hz0, hz1, hz2⟩ := info_parts Tryz.infoOp
  have hRl := hr0.lt
  have hGl := hr0.2.1
  have hdi : (0 : Int) ≤ d := by omega
  clear IH hr0 hW0
  go_enter Tryz.func109, Tryz.ntmps109
  go_wp2
  go_loopg [6] ws0.length (fun gf v wr => ∃ (ws : List (List UInt8)) (m : Nat), ws.length = gf ∧ gf ≤ N ∧ LP R G d ws0 m0 w ws m v wr)
  case atStart => exact ⟨ws0, m0, rfl, by omega, hstart.out⟩
  case round =>
   obtain ⟨ws, m, hlen, hgN, hLL⟩ := hrel
   have HL := aj hLL
   cases ws with
   | nil =>
    obtain ⟨ac, cc, c0, f0, _⟩ := hLL.rb.cells
    obtain ⟨acc, hown, hal, hpl⟩ := hLL.own
    obtain ⟨a, cap, hv⟩ := hown.len
    have HO := aj hown
    by_cases hd0 : d = 0
    ·subst hd0
     have HP := aj (hpl _ (PL.end0 m))
     subst hv
     clear hLL hpl hown hlen
     go_wp2
     go_ret2
     refine ⟨_, HP.out, HL.out.grown, _, rfl, ?_, HL.out.rb⟩
     rw [Fo.app_nil]
     exact HO.out
    ·have hd1 : (0 : Int) < d := by omega
     have HP := aj (hpl _ (PL.endB (d := d) (by omega) m))
     subst hv
     clear hLL hpl hown hlen
     go_wp2
     go_ret2
     exact ⟨_, HP.out, HL.out.grown, rfl, by decide⟩
   | cons x ws =>
    simp only [List.length_cons] at hlen
    have hwl := hLL.ww.1
    simp only [List.length_cons] at hwl
    have hxw := hLL.ww.2 x (by simp)
    obtain ⟨o, cp, c0, c1, hcp, f0, hpop⟩ := hLL.rb.pop
    obtain ⟨acc, hown, hal, hpl⟩ := hLL.own
    obtain ⟨a, cap, hv⟩ := hown.len
    have HO := aj hown
    have HPL := aj hpl
    have HPOP := aj hpop
    have Hn := aj (fun W => number_any x W hxw.2)
    clear hpop hpl
    subst hv
    clear hLL hown
    obtain ⟨a', ha', hsl⟩ := oT G o ws.length cp hcp
    have HLEN := aj hlen
    have hpos : (0 : Int) < (ws.length : Int) + 1 := by omega
    clear hlen
    by_cases hsh : x = ee
    ·subst hsh
     have hx1 : (ee == [93]) = true := by decide
     have hP1 := HPOP.out a' (cp - 1) (by rcases ha' with h | h; exact .inl (List.length_eq_zero_iff.1 h); exact .inr h) (by omega)
     by_cases hd0 : d = 0
     ·subst hd0
      have HP := aj (HPL.out _ (PL.bad (by simp) ou ws m))
      have HG := aj (HL.out.grown.trans hP1.1)
      clear hP1
      go_wp2
      go_ret2
      exact ⟨_, HP.out, HG.out, rfl, by decide⟩
     ·have hd1 : ((d : Int) == 0) = false := beq_eq_false_iff_ne.2 (by omega)
      have HP := aj (HPL.out _ (PL.shut (d := d) (by omega) ws m))
      have HG := aj hP1
      clear hP1
      go_wp2
      go_ret2
      refine ⟨_, HP.out, HL.out.grown.trans HG.out.1, _, rfl, ?_, HG.out.2⟩
      rw [Fo.app_nil]
      exact HO.out.keep (fun k hk hlt => HG.out.1.block k hlt (fun e => by injection e; omega))
    ·have hx1 : (x == [93]) = false := beq_eq_false_iff_ne.2 hsh
     have hP1 := HPOP.out a' (cp - 1) (by rcases ha' with h | h; exact .inl (List.length_eq_zero_iff.1 h); exact .inr h) (by omega)
     have hB2 := jp.new hP1.2 hP1.1 1 0 (.slice none 0 0)
     have hsz2 : (wr.setCell ⟨R, 0, none⟩ (.slice a' ws.length (cp - 1))).heap.size = wr.heap.size := by simp [World.setCell]
     rw [hsz2] at hB2
     have HWW := aj HL.out.ww.tail
     have HSH := aj hsh
     have hml := HL.out.many
     obtain ⟨bx, hbx⟩ : ∃ bx, wr.heap.size = bx := ⟨_, rfl⟩
     have HBX := aj hbx
     clear hP1 hsz2 hsh
     go_upto_if 46 with (go_at_call 152; refine (Hn.out _).mono ?_; rintro e w1 ⟨rfl, rfl⟩)
     rw [hbx] at hB2
     obtain ⟨w1, hw1⟩ : ∃ w1, (wr.setCell ⟨R, 0, none⟩ (.slice a' ws.length (cp - 1))).alloc (.cells #[.int .i64 1, .int .i64 0, .slice none 0 0] 230) = w1 := ⟨_, rfl⟩
     rw [hw1] at hB2 ⊢
     have HB2 := aj hB2
     clear hw1 hB2 hbx c0 c1 f0 hsl ha'
     go_cut [9, 10, 11, 12] from 15 to 130 (fun s9 s10 s11 s12 wx => ∃ kk nn, Hid (gL x = some (kk, nn)) ∧ Hid (jp R G bx ws m kk nn (.slice none 0 0) wr wx))
     case first =>
      cases hnum : ch x with
      | some n =>
       have HX := aj (opW_numR hnum)
       have HB3 := aj (HB2.out.set1 n)
       obtain ⟨_, ⟨p0, p1, p2⟩, q0, q1, q2⟩ := HB2.out.cells
       simp only [Option.getD_some, Option.isSome_some]
       clear hnum
       go_wp2
       go_meet
       exact ⟨_, _, HX, HB3⟩
      | none =>
       have HNUM := aj hnum
       simp only [Option.getD_none, Option.isSome_none]
       clear hnum
       go_wp2_with fail
       refine (words_any w1).mono ?_
       rintro e w2 ⟨rfl, hcells, hb2⟩
       have HB3 := aj (HB2.out.call hb2)
       have HC := aj hcells
       clear hcells hb2
       go_wp2
       go_loop [11] (fun i => ∃ k : Nat, k ≤ 29 ∧ i = .int .i64 k ∧ Hid (∀ j, j < k → im.getD (j + 2) [] ≠ x)) (fun i => 29 - (intOf i).toNat)
       case atStart => exact ⟨0, by omega, rfl, fun j hj => by omega⟩
       case round =>
        obtain ⟨k, hk, rfl, HK⟩ := hrel
        by_cases hk9 : k = 29
        ·subst hk9
         have HP := aj (HPL.out _ (PL.bad (fun h => HSH.out h.1) (kind_noneR hxw.1 HK.out HNUM.out) ws m))
         go_wp2
         go_ret2
         exact ⟨_, HP.out, HL.out.grown.trans HB3.out.gr, rfl, by decide⟩
        have hk1 : (k : Int) < 29 := by omega
        have hk0 : (0 : Int) ≤ k := by omega
        have hck := HC.out k (by omega)
        have hkf := kind_foundR (x := x) (k := k) (by omega)
        have hkn : im.getD (k + 2) [] ≠ x → ∀ j, j < k + 1 → im.getD (j + 2) [] ≠ x := by
         intro h j hj
         by_cases e : j = k
         ·subst e; exact h
         ·exact HK.out j (by omega)
        have HKF := aj hkf
        have HKN := aj hkn
        generalize im.getD (k + 2) [] = y at hck HKF HKN
        clear hkf hkn
        by_cases hy : y = x
        ·have hyx := hy.symm
         subst hyx
         have hX := HKF.out rfl HNUM.out
         rw [show (k : Int) + 2 = 2 + (k : Int) by omega] at hX
         have hy1 : (x == x) = true := beq_self_eq_true _
         have HX := aj hX
         have HB4 := aj (HB3.out.set0 (2 + (k : Int)))
         obtain ⟨_, ⟨p0, p1, p2⟩, q0, q1, q2⟩ := HB3.out.cells
         clear hX HKF HKN HK hy
         go_wp2
         go_meet
         exact ⟨_, _, HX, HB4⟩
        ·have hy1 : (y == x) = false := beq_eq_false_iff_ne.2 hy
         have HK2 := aj (HKN.out hy)
         clear HKF HKN hy
         go_wp2
         go_round
         case rel => exact ⟨k + 1, by omega, by go_num, HK2⟩
         case measure => simp [intOf]; omega
     case rest =>
      obtain ⟨kk, nn, HX, HB3⟩ := hcut
      have hB5 := HB3.out.setM
      obtain ⟨⟨r1, r2⟩, _, _⟩ := HB3.out.cells
      obtain ⟨⟨s1, s2⟩, ⟨t0, t1, t2⟩, t3, t4, t5⟩ := hB5.cells
      have HB5 := aj hB5
      clear hB5
      by_cases hm8 : m = 128
      ·subst hm8
       have HP := aj (HPL.out _ (PL.full HX.out d ws))
       go_wp2
       go_ret2
       exact ⟨_, HP.out, HL.out.grown.trans HB5.out.gr, rfl, by decide⟩
      have hm1 : (m : Int) + 1 ≤ 128 := by omega
      go_upto_region 23 with fail
      obtain ⟨W5, hW5⟩ : ∃ W5, wc.setCell ⟨R, 1, none⟩ (.int .i64 ((m : Int) + 1)) = W5 := ⟨_, rfl⟩
      rw [hW5] at HB5 t0 t1 t2 t3 t4 t5 ⊢
      clear hW5 s1 s2 r1 r2
      go_cut [90] from 15 to 130 (fun c wx => c = .bool (bm kk) ∧ wx = W5)
      case first =>
       have hway : (bm kk = false ∧ (kk == 28) = false ∧ (kk == 29) = false) ∨ (bm kk = true ∧ ((kk == 28) = true ∨ ((kk == 28) = false ∧ (kk == 29) = true))) := by
        unfold bm
        cases (kk == 28) <;> cases (kk == 29) <;> simp
       rcases hway with ⟨hb, e28, e29⟩ | ⟨hb, e28 | ⟨e28, e29⟩⟩
       all_goals
        have HHB := aj hb
        clear hb
        go_wp2
        go_meet
        exact ⟨by rw [HHB.out], rfl⟩
      case rest =>
       obtain ⟨rfl, rfl⟩ := hcut
       clear t0 t1 t2
       go_upto_if 90 with fail
       go_cut [13, 14] from 15 to 130 (fun s13 s14 wx => ∃ (ws' : List (List UInt8)) (m' : Nat) (sv : Value) (bb : Fo) (lo1 : Nat), m' ≤ 128 ∧ m < m' ∧ Hid (ws'.length ≤ ws.length) ∧ Hid (WW ws') ∧ Hid (jp R G bx ws' m' kk nn sv wr wx) ∧ Hid (FS (QO lo1) wx sv bb ∧ bx < lo1) ∧ Hid (∀ r, PL d ws' m' r → PL d (x :: ws) m (r.pre (one kk nn bb))))
       case first =>
        cases hb : bm kk with
        | false =>
         have HPN := aj (fun r (hr : PL d ws (m + 1) r) => PL.one HX.out hb hm8 hr)
         clear hb
         go_wp2
         go_meet
         exact ⟨ws, m + 1, _, .nil, bx + 1, by omega, by omega, Nat.le_refl _, HWW, HB5, ⟨FS.nil _, by omega⟩, HPN⟩
        | true =>
         have HK := aj hb
         clear hb
         cases ws with
         | nil =>
          have HP := aj (HPL.out _ (PL.cutB HX.out HK.out d hm8))
          obtain ⟨ac, cc, c0, f0, _⟩ := HB5.out.rp.cells
          go_wp2
          go_ret2
          exact ⟨_, HP.out, HL.out.grown.trans HB5.out.gr, rfl, by decide⟩
         | cons z ws =>
          obtain ⟨o2, cp2, c0, c1, hcp2, f0, hpop2⟩ := HB5.out.pop
          have HPOP2 := aj hpop2
          clear hpop2
          obtain ⟨a', ha', hsl⟩ := oT G o2 ws.length cp2 hcp2
          have hpos : (0 : Int) < (ws.length : Int) + 1 := by omega
          have hposn : ((ws.length : Int) + 1 == 0) = false := beq_eq_false_iff_ne.2 (by omega)
          by_cases hz : z = fh
          ·subst hz
           have hz1 : (fh == [91]) = true := by decide
           have hB6 := HPOP2.out a' (cp2 - 1) (by rcases ha' with h | h; exact .inl (List.length_eq_zero_iff.1 h); exact .inr h) (by omega)
           have HB6 := aj hB6
           clear hB6 ha'
           by_cases hd6 : 6 < d + 1
           ·have HP := aj (HPL.out _ (PL.deepB HX.out HK.out hm8 hd6 ws))
            have hdi : (6 : Int) < (d : Int) + 1 := by omega
            go_wp2
            go_ret2
            exact ⟨_, HP.out, HL.out.grown.trans HB6.out.gr, rfl, by decide⟩
           ·have hdi : (d : Int) + 1 ≤ 6 := by omega
            go_wp2_with fail
            have hL := HH.out ws (d + 1) (m + 1) R G _ (by have := HLEN.out; simp at this; omega) (by omega) (by omega) HWW.out.tail HB6.out.rp
            rw [show ((d + 1 : Nat) : Int) = (d : Int) + 1 by omega] at hL
            refine hL.mono ?_
            rintro e w7 ⟨r, hp, hg7, hres⟩
            clear hL c0 c1 f0 hsl
            have hs6 := HB6.out.blk.lt
            cases r with
            | err c =>
             obtain ⟨rfl, hc0⟩ := hres
             have hci : (c == 0) = false := beq_eq_false_iff_ne.2 hc0
             have HP := aj (HPL.out _ (PL.errB HX.out HK.out hm8 hd6 hp))
             have HG := aj (HL.out.grown.trans (HB6.out.gr.trans hg7))
             clear hp hg7
             go_wp2
             go_ret2
             exact ⟨_, HP.out, HG.out, rfl, hc0⟩
            | ok f ws' m' =>
             obtain ⟨v7, rfl, hown7, hr7⟩ := hres
             obtain ⟨fu, hfu⟩ := hp
             obtain ⟨_, _, hmt, hm2, u, hu⟩ := read_ok fu (d + 1) ws (m + 1) f ws' m' hfu (fun x hx => (HWW.out.tail.2 x hx).1) (by omega) (by omega)
             have hmlt : m < m' := by omega
             have HPN := aj (fun r (hr : PL d ws' m' r) => PL.blk HX.out HK.out hm8 hd6 ⟨fu, hfu⟩ hr)
             obtain ⟨a2, cap2, rfl⟩ := hown7.len
             have hB7 := HB6.out.deep hg7 hr7
             have hB8 := hB7.set2 (.slice a2 f.len cap2)
             have HB := aj hB8
             obtain ⟨_, ⟨v0, v1, v2⟩, x0, x1, x2⟩ := hB7.cells
             have HWN : Hid (WW ws') := by have := HWW.out.tail; rw [hu] at this; exact this.suffix
             have HLN : Hid (ws'.length ≤ (fh :: ws).length) := by unfold Hid; rw [hu]; simp; omega
             have HIN := aj (And.intro (hown7.fs.keep (w' := w7.setCell ⟨bx, 2, none⟩ (.slice a2 f.len cap2)) (fun j hj hlt => Below.heap_setCell _ _ _ _ (by show j ≠ bx; omega))) hs6)
             clear hmt hu hfu hown7 hr7 hB7 hB8 hg7 hs6
             go_wp2
             go_meet
             exact ⟨ws', m', _, f, _, hm2, hmlt, HLN, HWN, HB, HIN, HPN⟩
          ·have hz1 : (z == [91]) = false := beq_eq_false_iff_ne.2 hz
           have HP := aj (HPL.out _ (PL.badB HX.out HK.out d hm8 hz ws))
           go_wp2
           go_ret2
           exact ⟨_, HP.out, HL.out.grown.trans HB5.out.gr, rfl, by decide⟩
       case rest =>
        obtain ⟨ws', m', sv, bb, lo1, hm2, hmlt, HLN, HWN, HB, HFS, HPB⟩ := hcut
        rename World => wd
        obtain ⟨a2, cap2, hsv⟩ := HFS.out.1.val
        subst hsv
        have HPN := aj (fun r (hr : PL d ws' m' r) => by have := HPL.out _ (HPB.out r hr); rw [Rs.pre_pre] at this; exact this)
        have hub : ∀ j, (Value.slice a acc.len cap).ownBlock = some j → j < wr.heap.size := by
         intro j hj
         obtain ⟨l', ho', _⟩ := HO.out
         exact (ho'.lt j hj).2
        have hbw := HB.out.sz
        have hwz := HL.out.grown.size
        have hbl := HFS.out.2
        have HIN : Hid (FS (QX w.heap.size (.slice a acc.len cap)) (wd.alloc (.cells #[.int .i64 kk, .int .i64 nn, .slice a2 bb.len cap2] 230)) (.slice a2 bb.len cap2) bb) := by
         refine inner_fs HFS.out.1 (fun j hj hlt => Below.heap_alloc _ _ _ hlt) (by omega) (fun j hj => ?_)
         have := hub j hj
         omega
        obtain ⟨l, hol, hrl⟩ := HB.out.own hRl HO.out
        obtain ⟨_, ⟨y0, y1, y2⟩, _⟩ := HB.out.cells
        have hll := hrl.len
        have hol := aj hol
        have hrl := aj hrl
        have hl1 : l.length + 1 ≤ 129 := by omega
        have hal2 : acc.len + 1 ≤ m' := by omega
        clear hll hub hbw hwz hbl
        go_wp2_with (at_builtin; refine wpList_append_own_at _ rfl _ _ 106 rfl w.heap.size 230 i0 _ 3 40 Tryz.underlying106 hi hz0 hz1 hz2 rfl (by decide) (.slice a acc.len cap) l.length (ef l) rfl ?ecO ⟨_, 0, none⟩ 1 1 [.int .i64 kk, .int .i64 nn, .slice a2 bb.len cap2] rfl rfl ?ecN (op_cells _ _ _ _ _) ?ec3 ?ec4 ?ec5 ?_)
        case ecO => exact fi hol.out ((Below.refl _ _).alloc (Nat.le_refl _) _)
        case ecN => exact lk (new3s (by simp) _ _ _ _)
        case ec3 => unfold maxLen; omega
        case ec4 => omega
        case ec5 => have h1 := HB.out.gr.size; have h2 := HL.out.grown.size; simp; omega
        intro v3 w3 hown3 hgrow3 _ hat3
        have HF := aj (lp_next (ws0 := ws0) (m0 := m0) (d := d) hRl hGl hol.out hrl.out (HL.out.grown.trans HB.out.gr) HB.out.rp HWN.out hm2 (by omega) HPN.out HIN.out hown3 hgrow3 (by simpa using hat3))
        clear hown3 hgrow3 hat3
        go_wp2
        go_roundg ws'.length
        case measure => have := HLEN.out; have := HLN.out; omega
        case rel => exact ⟨ws', _, rfl, by have := HLEN.out; have := HLN.out; omega, HF.out⟩
theorem rp_new {w1 : World} {base : Nat} {v : Value} {ws : List (List UInt8)} (h : fo w1 base v (ws.map ba)) (h7 : 0 < w1.heap.size) : ∃ G, RP (w1.alloc (.cells #[v, .int .i64 0] 175)) w1.heap.size G ws 0 := by
 rcases h.2 with ⟨rfl, h0⟩ | ⟨g, cap, cur, rfl, _, hb, hc, _, _, ht⟩
 ·have hw : ws = [] := by simpa using h0
  subst hw
  exact ⟨0, by omega, by simp, none, 0, 0, heap_alloc_new w1 _, by simp, .inl rfl, fun i x hx => by simp at hx⟩
 ·have hg : g < w1.heap.size := (Array.getElem?_eq_some_iff.1 hb).1
  refine ⟨g, by omega, by simp; omega, some ⟨g, 0, none⟩, cap, 0, ?_, by simpa using hc, .inr rfl, fun i x hx => ?_⟩
  ·have := heap_alloc_new w1 (.cells #[.slice (some ⟨g, 0, none⟩) (ws.map ba).length cap, .int .i64 0] 175)
   rw [this]
   simp
  ·rw [World.cell?_of_block (a := ⟨g, 0 + i, none⟩) (Below.heap_alloc _ _ _ hg)]
   exact dZ hb ht i x hx
theorem mQ (s : ByteArray) (w : World) (hs : s.size ≤ 140737488351232) (h0 : 0 < w.heap.size) :
  Calls Tryz.prog 63 #[.string s] w fun e w' => ∃ r, cG s r ∧ Below w.heap.size w w' ∧ PRes w w' e r := by
 by_cases h5 : 512 < s.size
 ·have h5i : (512 : Int) < (s.size : Int) := by omega
  have HP : Hid (cG s (.err 2)) := by unfold Hid cG; rw [if_pos h5]
  go_enter Tryz.func63, Tryz.ntmps63
  go_wp2
  go_ret2
  exact ⟨_, HP.out, Below.refl _ _, rfl, by decide⟩
 ·have h5i : ¬ (512 : Int) < (s.size : Int) := by omega
  have h5j : (s.size : Int) ≤ 512 := by omega
  have Hf := aj (split_any s w (by omega))
  have hww := ww_split s (by omega)
  go_enter Tryz.func63, Tryz.ntmps63
  go_wp2_with (go_at_call 108; refine Hf.out.mono ?_)
  rintro e w1 v rfl hown hb1
  have hs1 := hb1.size
  obtain ⟨G, hrb⟩ := rp_new (ws := aD [] (L s)) hown (by omega)
  have hb2 := (Below.refl w1.heap.size w1).alloc (Nat.le_refl _) (.cells #[v, .int .i64 0] 175)
  have hL := rlist_all _ (aD [] (L s)) 0 0 w1.heap.size G _ (Nat.lt_succ_self _) (by omega) (by omega) hww hrb
  rw [show ((0 : Nat) : Int) = 0 from rfl] at hL
  have HL := aj hL
  have HB := aj (hb1.trans (hb2.mono hb1.size))
  obtain ⟨a, cap, rfl⟩ := fo.shape hown
  clear hL hrb hown hb1 hb2
  go_wp2_with (go_at_call 109; refine HL.out.mono ?_)
  rintro e w3 ⟨r, hp, hg, hres⟩
  have hbel := HB.out.grown hg (by simp; omega) (fun k hk => by injection hk; omega)
  have HP : Hid (cG s r) := by unfold Hid cG; rw [if_neg h5]; exact hp
  have HBE := aj hbel
  clear hp hbel hg
  cases r with
  | err c =>
   obtain ⟨rfl, hc0⟩ := hres
   go_wp2
   go_ret2
   exact ⟨_, HP.out, HBE.out, rfl, hc0⟩
  | ok f ws' m' =>
   obtain ⟨v, rfl, hown, _⟩ := hres
   have HO := aj hown
   obtain ⟨a', cap', rfl⟩ := hown.len
   clear hown
   go_wp2
   go_ret2
   exact ⟨_, HP.out, HBE.out, _, rfl, HO.out.lower (by simp; omega)⟩
end Go.Proofs.YtclcgakfmcofaaaGreatDoor
