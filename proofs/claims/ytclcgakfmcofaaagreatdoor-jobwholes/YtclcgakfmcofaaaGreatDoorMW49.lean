import Derived.Test.YtclcgakfmcofaaaGreatDoorMW30
import Derived.Test.YtclcgakfmcofaaaGreatDoorMW37
import Derived.OpenShut
import Derived.FnData
import Derived.MakeChecks
set_option linter.unusedVariables false
set_option maxRecDepth 100000
namespace Go.Proofs.YtclcgakfmcofaaaGreatDoor
open Go.ChangeAt Go.ChangeShapes Go.RowKit Go.WideShapes
theorem trod_face {H : Type} {enc : TypeId × Value → H} {P : Program} {w : World} {base : Nat} {spare : Nat → Bool} {held : Bool} {fuel : Nat} {t : TypeId} {ms : Array (String × TypeId)} {cs : List Value} {x : DataW H × List MemPlace} (ht : P.underlying t = some (.interface ms)) (h : DataW.trod enc P w base spare held fuel t cs = some x) : cs = [.nilIface] ∨ ∃ u v, cs = [.iface u v] := by
 cases fuel with
 | zero => simp [DataW.trod] at h
 | succ m =>
  unfold DataW.trod at h
  rw [ht] at h
  split at h <;> simp_all
theorem gTab : Tryz.prog.globalNamed "thresher/lang.words" = some 0 := by kernel_rfl
theorem tTab : (Tryz.prog.globals[0]?).map (·.type) = some 300 := by kernel_rfl
theorem tPow : (Tryz.prog.globals[5]?).map (·.type) = some 359 := by kernel_rfl
theorem nSyn : Tryz.prog.globalNamed "strconv.ErrSyntax" = some 3 := by kernel_rfl
theorem tSyn : (Tryz.prog.globals[3]?).map (·.type) = some 73 := by kernel_rfl
theorem nRng : Tryz.prog.globalNamed "strconv.ErrRange" = some 4 := by kernel_rfl
theorem tRng : (Tryz.prog.globals[4]?).map (·.type) = some 73 := by kernel_rfl
theorem nB64 : Tryz.prog.globalNamed "math/bits.deBruijn64tab" = some 7 := by kernel_rfl
theorem face_cell {W : World} {n : String} {g : Nat} {cs : Array Value} {fuel : Nat} {x : DataW Unit × List MemPlace} (hg : Tryz.prog.globalNamed n = some g) (hv : W.var? Tryz.prog n = some cs) (hd : DataW.trod (fun _ => ()) Tryz.prog W 0 (fun _ => true) false fuel 73 cs.toList = some x) :
  ∃ ev, W.cell? ⟨g, 0, none⟩ = some ev ∧ (ev = .nilIface ∨ ∃ te pe, ev = .iface te pe) := by
 have hc := World.var?_cell hg hv 0
 rcases trod_face Tryz.underlying73 hd with h | ⟨u, v, h⟩
 ·refine ⟨.nilIface, ?_, .inl rfl⟩
  rw [hc, ← Array.getElem?_toList, h]
  rfl
 ·refine ⟨.iface u v, ?_, .inr ⟨u, v, rfl⟩⟩
  rw [hc, ← Array.getElem?_toList, h]
  rfl
theorem array_of {W : World} {t e : TypeId} {n fuel : Nat} {cs : List Value} {x : DataW Unit × List MemPlace} (ht : Tryz.prog.underlying t = some (.array n e)) (hce : Tryz.prog.cellsOf e = 1) (hct : Tryz.prog.cellsOf t = n) (h : DataW.trod (fun _ => ()) Tryz.prog W 0 (fun _ => true) false fuel t cs = some x) :
  cs.length = n ∧ ∃ xs : List (DataW Unit × List MemPlace), x.1 = .agg (xs.map (·.1)) ∧ xs.length = n ∧ ∀ i (hi : i < n), ∃ v m, cs[i]? = some v ∧ DataW.trod (fun _ => ()) Tryz.prog W 0 (fun _ => true) false m e [v] = xs[i]? := by
 obtain ⟨xs, m, _, hx, hl, hn, hel⟩ := DataW.trod_array ht h
 rw [hct] at hl
 refine ⟨hl, xs, by rw [hx], hn, fun i hi => ?_⟩
 have h1 := hel i hi
 rw [hce, Nat.mul_one] at h1
 obtain ⟨v, hv⟩ : ∃ v, cs[i]? = some v := ⟨_, List.getElem?_eq_getElem (by omega)⟩
 have hdt : (cs.drop i).take 1 = [v] := by
  have : (cs.drop i)[0]? = some v := by rw [List.getElem?_drop]; simpa using hv
  cases hd : cs.drop i with
  | nil => rw [hd] at this; simp at this
  | cons a t => rw [hd] at this; simp at this; simp [this]
 rw [hdt] at h1
 exact ⟨v, m, hv, h1⟩
theorem cellsTab : Tryz.prog.cellsOf 300 = 31 := by kernel_rfl
theorem cellsPow : Tryz.prog.cellsOf 359 = 20 := by kernel_rfl
theorem cellsU64 : Tryz.prog.cellsOf 194 = 1 := by kernel_rfl
abbrev laid7 : List (String × DataW Unit) := [("math/bits.deBruijn32tab", Rows.laid_math_bits_deBruijn32tab), ("math/bits.deBruijn64tab", Rows.laid_math_bits_deBruijn64tab), ("internal/strconv.uint64pow10", Rows.laid_internal_strconv_uint64pow10), ("thresher/sum.halves", Rows.laid_thresher_sum_halves), ("strconv.ErrRange", Rows.laid_strconv_ErrRange), ("strconv.ErrSyntax", Rows.laid_strconv_ErrSyntax), ("thresher/lang.words", Rows.laid_thresher_lang_words)]
theorem env_of_laid {W : World} (h : laidMetH Tryz.prog laid7 W) : iu W ∧ bI W := by
 rw [MakeChecks.laidMetH_plain _ _ _ (by kernel_rfl)] at h
 obtain ⟨ps, hL, _, _⟩ := h
 obtain ⟨g1, t1, cs1, f1, p1, q1, hg1, ht1, hv1, hd1, hL, _⟩ := hL
 obtain ⟨g2, t2, cs2, f2, p2, q2, hg2, ht2, hv2, hd2, hL, _⟩ := hL
 obtain ⟨g3, t3, cs3, f3, p3, q3, hg3, ht3, hv3, hd3, hL, _⟩ := hL
 obtain ⟨g0, t0, cs0, f0, p0, q0, hg0, ht0, hv0, hd0, hL, _⟩ := hL
 obtain ⟨g4, t4, cs4, f4, p4, q4, hg4, ht4, hv4, hd4, hL, _⟩ := hL
 obtain ⟨g5, t5, cs5, f5, p5, q5, hg5, ht5, hv5, hd5, hL, _⟩ := hL
 obtain ⟨g6, t6, cs6, f6, p6, q6, hg6, ht6, hv6, hd6, hL, _⟩ := hL
 obtain rfl := Option.some.inj (gPow.symm.trans hg3)
 obtain rfl := Option.some.inj (nRng.symm.trans hg4)
 obtain rfl := Option.some.inj (nSyn.symm.trans hg5)
 obtain rfl := Option.some.inj (gTab.symm.trans hg6)
 obtain rfl := Option.some.inj (tPow.symm.trans ht3)
 obtain rfl := Option.some.inj (tRng.symm.trans ht4)
 obtain rfl := Option.some.inj (tSyn.symm.trans ht5)
 obtain rfl := Option.some.inj (tTab.symm.trans ht6)
 refine ⟨⟨?_, face_cell hg5 hv5 hd5, face_cell hg4 hv4 hd4, ?_, ?_⟩, ?_⟩
 ·obtain ⟨hl, xs, hx, hn, hel⟩ := array_of Tryz.underlying300 Tryz.cells9L cellsTab hd6
  have hcs : cs6 = tabV := by
   apply Array.ext_getElem?
   intro i
   by_cases hi : i < 31
   ·obtain ⟨v, m, hv, ht⟩ := hel i hi
    obtain ⟨y, hy⟩ : ∃ y, xs[i]? = some y := ⟨_, List.getElem?_eq_getElem (by omega)⟩
    rw [hy] at ht
    obtain ⟨s, e1, e2, _⟩ := DataW.trod_string Tryz.underlying9 ht
    have hd : (im.map fun l => (.lit (.string l) : DataW Unit)) = xs.map (·.1) := by
     have : Rows.laid_thresher_lang_words = DataW.agg (xs.map (·.1)) := hx
     unfold Rows.laid_thresher_lang_words at this
     exact (DataW.agg.injEq _ _).mp this
    have hdi : (im.map fun l => (.lit (.string l) : DataW Unit))[i]? = some y.1 := by rw [hd, List.getElem?_map, hy]; rfl
    rw [List.getElem?_map, List.getElem?_eq_getElem (show i < im.length from hi), e2] at hdi
    simp at hdi e1
    rw [tabV_at i hi, ← Array.getElem?_toList, hv, e1, List.getD_eq_getElem?_getD, List.getElem?_eq_getElem (show i < im.length from hi)]
    simp only [Option.getD_some, hdi]
   ·rw [Array.getElem?_eq_none (by rw [← Array.length_toList, hl]; omega), Array.getElem?_eq_none (by rw [pd]; omega)]
  unfold World.var? at hv6
  rw [gTab] at hv6
  simp only [Option.bind_some] at hv6
  split at hv6
  ·rename_i cs t fr hb
   injection hv6 with hv6
   exact ⟨t, fr, by rw [hb, hv6, hcs]⟩
  ·simp at hv6
 ·obtain ⟨hl, xs, hx, hn, hel⟩ := array_of Tryz.underlying359 cellsU64 cellsPow hd3
  unfold Lib.TabIs
  rw [hv3]
  congr 1
  apply Array.ext_getElem?
  intro i
  have hp20 := Lib.pow10Tab_length
  by_cases hi : i < 20
  ·obtain ⟨v, m, hv, ht⟩ := hel i hi
   obtain ⟨y, hy⟩ : ∃ y, xs[i]? = some y := ⟨_, List.getElem?_eq_getElem (by omega)⟩
   rw [hy] at ht
   obtain ⟨z, e1, e2, _⟩ := DataW.trod_int Tryz.underlying194 ht
   have hd : (Lib.pow10Tab.map fun z => (.lit (.int .u64 z) : DataW Unit)) = xs.map (·.1) := by
    have : Rows.laid_internal_strconv_uint64pow10 = DataW.agg (xs.map (·.1)) := hx
    unfold Rows.laid_internal_strconv_uint64pow10 at this
    exact (DataW.agg.injEq _ _).mp this
   have hdi : (Lib.pow10Tab.map fun z => (.lit (.int .u64 z) : DataW Unit))[i]? = some y.1 := by rw [hd, List.getElem?_map, hy]; rfl
   rw [List.getElem?_map, List.getElem?_eq_getElem (by omega), e2] at hdi
   simp at hdi e1
   rw [← Array.getElem?_toList, hv, e1]
   simp [List.getElem?_eq_getElem (show i < Lib.pow10Tab.length by omega), hdi]
  ·rw [Array.getElem?_eq_none (by rw [← Array.length_toList, hl]; omega), Array.getElem?_eq_none (by simp; omega)]
 ·obtain rfl := Option.some.inj (nB64.symm.trans hg2)
  unfold World.var? at hv2
  rw [nB64] at hv2
  simp only [Option.bind_some] at hv2
  by_cases h7 : 8 ≤ W.heap.size
  ·exact h7
  ·rw [Array.getElem?_eq_none (by omega)] at hv2
   simp at hv2
 ·obtain rfl := Option.some.inj (gHalves.symm.trans hg0)
  obtain rfl := Option.some.inj (tHalves.symm.trans ht0)
  obtain ⟨xs, m1, rfl, hx1, hlen, hn3, hel⟩ := DataW.trod_array Tryz.underlying334 hd0
  have c23 : Tryz.prog.cellsOf 182 = 1 := by kernel_rfl
  have e1 : tabH.map (fun n => (.lit (.int .u32 n) : DataW Unit)) = xs.map (fun x => x.fst) := by
   simp only [Prod.mk.injEq] at hx1
   have := hx1.1
   unfold Rows.laid_thresher_sum_halves at this
   exact (DataW.agg.injEq _ _).mp this
  intro k hk
  have ht : tabH[k]? = some (wd (half k)) := tab_half ⟨k, hk⟩
  have hx : (xs.map (fun x => x.fst))[k]? = some (.lit (.int .u32 (wd (half k)))) := by
   rw [← e1, List.getElem?_map, ht]
   rfl
  have h1 := hel k hk
  rw [c23, Nat.mul_one] at h1
  rw [List.getElem?_map] at hx
  cases hy : xs[k]? with
  | none => rw [hy] at hx; cases hx
  | some y =>
   rw [hy] at hx h1
   obtain ⟨n, e1, e2, _⟩ := DataW.trod_int Tryz.underlying182 h1
   have hn : n = wd (half k) := by
    rw [e2] at hx
    simpa using hx
   subst hn
   have hc := World.var?_cell hg0 hv0 k
   rw [hc]
   have hd : cs0.toList[k]? = some (.int .u32 (wd (half k))) := by
    have := congrArg (fun l => l[0]?) e1
    simpa using this
   simpa using hd
end Go.Proofs.YtclcgakfmcofaaaGreatDoor
