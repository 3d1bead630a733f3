/- The law KeySorts' walk: it answers true, whatever ask comes in; it writes nothing that was there. -/
import Derived.Test.YtkfhfennelckfaaKCount
import Derived.Test.YtkfhfennelckfaaKAsk
import Derived.Deep.RegionHeld3
namespace Go.Proofs.Ytkfhfennelckfaa
open Go.RowKit
set_option linter.unusedVariables false

theorem kcmp_below (x y : Ky) (W : World) : Calls Try.prog 23 #[.agg #[.int .i64 x.1, .string x.2], .agg #[.int .i64 y.1, .string y.2]] W fun e w' => e = .returned (.int .i64 (cfK x y)) ∧ Below W.heap.size W w' :=
  (kcmp_any x y W).mono fun e w' ⟨he, q, os, hw⟩ => ⟨he, by rw [hw]; exact below_grow W q os⟩
theorem sameB_of {α : Type} [DecidableEq α] {l m : List α} (h : l = m) : sameB l m = true := by simp [sameB, h]
theorem AskRel.drew {w W : World} {v : Value} {x : ByteArray} {l : List Ky} (h : AskRel w W v x l) : AskRel w W.drew v x l := h.step (Below.refl _ W).drew
/-- Two keys of the ask, for a region that compares them. -/
theorem keepC {w W : World} {b off n cap : Nat} {x : ByteArray} {l : List Ky} {i k : Nat} {y z : Ky} (h : AskRel w W (.slice (some ⟨b, off, none⟩) n cap) x l) (hy : l[i]? = some y) (hz : l[k]? = some z) :
    W.cell? ⟨w.heap.size, 0, none⟩ = some (.slice (some ⟨b, off, none⟩) n cap) ∧ W.cell? ⟨b, off + i * 2, none⟩ = some (.int .i64 y.1) ∧ W.cell? ⟨b, off + i * 2 + 1, none⟩ = some (.string y.2) ∧
      W.cell? ⟨b, off + k * 2, none⟩ = some (.int .i64 z.1) ∧ W.cell? ⟨b, off + k * 2 + 1, none⟩ = some (.string z.2) ∧ AskRel w W (.slice (some ⟨b, off, none⟩) n cap) x l :=
  ⟨h.c0, (h.ks.at hy).1, (h.ks.at hy).2, (h.ks.at hz).1, (h.ks.at hz).2, h⟩

set_option maxRecDepth 100000 in
set_option maxHeartbeats 3200000 in
theorem lawks (v : Value) (x : ByteArray) (l : List Ky) (w : World) (h : KS w v l) (hl : l.length ≤ maxLen) (hwf : Wf l) :
    Calls Try.prog 4 #[.agg #[v, .string x]] w fun e w' => e = .returned (.bool true) ∧ Below w.heap.size w w' := by
  have hR0 := AskRel.start w v x l 24 h
  obtain ⟨a, cap, rfl, hshape⟩ := h
  go_enter Try.func4, Try.ntmps4
  go_wp2_with fail
  refine (heavy_any _ x l _ hR0.ks hl).mono ?_
  rintro e w1 ⟨⟨r, rfl, hr⟩, hb1⟩
  have hR1 := hR0.step hb1
  clear hR0 hb1
  cases r
  · obtain ⟨hl2, _⟩ := hr rfl
    clear hr
    have c0 := hR1.c0
    go_wp2_with fail
    refine (copy_any _ l _ hR1.ks (by omega)).mono ?_
    rintro e w2 ⟨vin, rfl, hoin, hb2⟩
    have hR2 := hR1.step hb2
    have hin2 := KS.own hoin
    clear hR1 c0 hb2 hoin
    go_wp2_with fail
    refine (ksort_any _ l _ hin2 (by omega)).mono ?_
    rintro e w3 ⟨va, s, rfl, hS1, hoa3, hb23⟩
    have hin3 := hin2.below hb23
    go_wp2_with fail
    refine (kcount_any _ l _ hin3 hwf (by omega)).mono ?_
    rintro e w4 ⟨vb, vm, ks, ms, rfl, hC1, hob4, hom4, hb34⟩
    have hb24 := Below.next hb23 hb34
    have hoa4 := hoa3.below hb34
    have hR4 := hR2.step hb24
    have c0 := hR4.c0
    have hz3 := hb34.size
    have hz2 := hb23.size
    have hga := hoa3.lt
    clear hin3 hb23 hb34 hoa3
    go_wp2_with fail
    refine (rcount_any _ l _ hR4.ks (by omega)).mono ?_
    rintro e w5 ⟨vx, vy, ks', ms', rfl, hC2, hox5, hoy5, hb45⟩
    obtain ⟨rfl, rfl⟩ := hC1.unique hC2
    have hb25 := Below.next hb24 hb45
    have hoa5 := hoa4.below hb45
    have hob5 := hob4.below hb45
    have hom5 := hom4.below hb45
    have hR5 := hR2.step hb25
    clear c0 hR4 hoa4 hob4 hom4 hb45 hb24 hC2
    have c0 := hR5.c0
    go_wp2_with fail
    refine (rsort_any _ l _ hR5.ks (by omega)).mono ?_
    rintro e w6 ⟨vs, s', rfl, hS2, hos6, hb56⟩
    obtain rfl := hS1.unique hS2
    have hsl : s.length ≤ 1000 := by rw [hS1.1.length_eq]; omega
    have hkl : ks.length ≤ 1000 := by have := hC1.le; omega
    have hml : ms.length ≤ 1000 := by rw [hC1.length]; omega
    have hb26 := Below.next hb25 hb56
    have hoa6 := hoa5.below hb56
    have hob6 := hob5.below hb56
    have hom6 := hom5.below hb56
    have hox6 := hox5.below hb56
    have hoy6 := hoy5.below hb56
    clear c0 hR5 hoa5 hob5 hom5 hox5 hoy5 hb56 hb25 hS2
    go_wp2_with fail
    refine (eqkeys_any _ _ s s _ (KS.own hoa6) (KS.own hos6) (by omega)).mono ?_
    rintro e w7 ⟨rfl, hd67⟩
    rw [sameB_of (rfl : s = s)]
    have hb67 := hd67.below w6.heap.size
    have hb27 := Below.next hb26 hb67
    have hoa7 := hoa6.below hb67
    have hob7 := hob6.below hb67
    have hom7 := hom6.below hb67
    have hox7 := hox6.below hb67
    have hoy7 := hoy6.below hb67
    clear hoa6 hob6 hom6 hox6 hoy6 hos6 hb67 hd67 hb26
    go_wp2_with fail
    refine (eqkeys_any _ _ ks ks _ (KS.own hob7) (KS.own hox7) (by omega)).mono ?_
    rintro e w8 ⟨rfl, hd78⟩
    rw [sameB_of (rfl : ks = ks)]
    have hb78 := hd78.below w7.heap.size
    have hb28 := Below.next hb27 hb78
    have hoa8 := hoa7.below hb78
    have hob8 := hob7.below hb78
    have hom8 := hom7.below hb78
    have hoy8 := hoy7.below hb78
    clear hoa7 hob7 hom7 hox7 hoy7 hb78 hd78 hb27
    go_wp2_with fail
    refine (eqnums_any _ _ ms ms _ (NS.own hom8) (NS.own hoy8) (by omega)).mono ?_
    rintro e w9 ⟨rfl, hd89⟩
    rw [sameB_of (rfl : ms = ms)]
    have hb89 := hd89.below w8.heap.size
    have hb29 := Below.next hb28 hb89
    have hoa9 := hoa8.below hb89
    have hob9 := hob8.below hb89
    have hR9 := hR2.step hb29
    have hin9 := hin2.below hb29
    clear hoa8 hob8 hom8 hoy8 hb89 hd89 hb28
    have c0 := hR9.c0
    go_wp2_with fail
    refine (eqkeys_any _ _ l l _ hin9 hR9.ks (by omega)).mono ?_
    rintro e w10 ⟨rfl, hd90⟩
    rw [sameB_of (rfl : l = l)]
    have hb90 := hd90.below w9.heap.size
    have hb20 := Below.next hb29 hb90
    have hoa10 := hoa9.below hb90
    have hob10 := hob9.below hb90
    clear c0 hR9 hin9 hoa9 hob9 hb90 hd90 hb29
    have hz20 := hb20.size
    go_wp2_with fail
    refine (wipe_own _ _ s _ hoa10 (by omega)).mono ?_
    rintro e w11 ⟨rfl, hg11⟩
    have hb211 : Below w2.heap.size w2 w11 := hb20.grown hg11 hz20 (own_row hoa10)
    have hob11 : OwnK w11 w3.heap.size vb ks := hob10.kept hg11 (by
      cases hvb : vb.ownBlock with
      | none => exact .inl rfl
      | some g =>
        right
        intro e
        have h1 := (hob10.lt g hvb).1
        have h2 := (hga g e.symm).2
        omega)
    clear hb20 hoa10 hob10 hg11 hz20
    have hz211 := hb211.size
    go_wp2_with fail
    refine (wipe_own _ _ ks _ hob11 (by omega)).mono ?_
    rintro e w12 ⟨rfl, hg12⟩
    have hb212 : Below w2.heap.size w2 w12 := hb211.grown hg12 hz211 (fun k hk => Nat.le_trans hz2 (own_row hob11 k hk))
    have hR12 := hR2.step hb212
    have hin12 := hin2.below hb212
    clear hb211 hob11 hg12 hz211
    have c0 := hR12.c0
    go_wp2_with fail
    refine (eqkeys_any _ _ l l _ hin12 hR12.ks (by omega)).mono ?_
    rintro e w13 ⟨rfl, hd13⟩
    rw [sameB_of (rfl : l = l)]
    have hR := hR12.step (hd13.below w12.heap.size)
    clear c0 hR12 hin12 hd13 hb212 hR2 hin2 hga hS1 hC1
    have c0 := hR.c0
    go_wp2
    go_loopw [9] (fun i W => ∃ k : Nat, k ≤ l.length ∧ k ≤ 15 ∧ i = .int .i64 k ∧ AskRel w W (.slice a l.length cap) x l) (fun i _ => 15 - (intOf i).toNat)
    case atStart => exact ⟨0, by omega, by omega, rfl, hR⟩
    case round =>
      clear hR c0
      obtain ⟨i, hi, hi15, rfl, hR⟩ := hrel
      have c0 := hR.c0
      by_cases hli : i < l.length
      · by_cases hli15 : i < 15
        · have hd15 : decide ((i : Int) < 15) = true := by simp; omega
          obtain ⟨⟨ya, yb⟩, hy⟩ := getSome hli
          rcases hshape with rfl | ⟨b, off, rfl, _, _⟩
          · simp at hli
          go_wp2
          go_loopw [10] (fun i W => ∃ k : Nat, k ≤ l.length ∧ k ≤ 15 ∧ i = .int .i64 k ∧ AskRel w W (.slice (some ⟨b, off, none⟩) l.length cap) x l) (fun i _ => 15 - (intOf i).toNat)
          case atStart => exact ⟨0, by omega, by omega, rfl, hR⟩
          case round =>
            clear hR c0
            obtain ⟨k, hk, hk15, rfl, hR⟩ := hrel
            have c0 := hR.c0
            by_cases hlk : k < l.length
            · by_cases hlk15 : k < 15
              · have hd15' : decide ((k : Int) < 15) = true := by simp; omega
                obtain ⟨⟨za, zb⟩, hz⟩ := getSome hlk
                have i0 : (0 : Int) ≤ i := by omega
                have i1 : (i : Int) < l.length := by omega
                have k0' : (0 : Int) ≤ k := by omega
                have k1 : (k : Int) < l.length := by omega
                have hkc := kcmp_below (ya, yb) (za, zb)
                have hrc := rcmp_any (ya, yb) (za, zb)
                simp only at hkc hrc
                generalize cfK (ya, yb) (za, zb) = cc at hkc hrc
                go_wp2
                go_region_held3 (fun W' => W'.cell? ⟨w.heap.size, 0, none⟩ = some (.slice (some ⟨b, off, none⟩) l.length cap) ∧ W'.cell? ⟨b, off + i * 2, none⟩ = some (.int .i64 ya) ∧ W'.cell? ⟨b, off + i * 2 + 1, none⟩ = some (.string yb) ∧
                    W'.cell? ⟨b, off + k * 2, none⟩ = some (.int .i64 za) ∧ W'.cell? ⟨b, off + k * 2 + 1, none⟩ = some (.string zb) ∧ AskRel w W' (.slice (some ⟨b, off, none⟩) l.length cap) x l)
                  (first
                    | exact keepC hR.drew hy hz
                    | exact keepC ((‹_ ∧ _ ∧ _ ∧ _ ∧ _ ∧ AskRel w _ _ _ _›).2.2.2.2.2.step (by assumption)) hy hz)
                  (first
                    | (go_at_call 23; refine (hkc _).mono ?_; rintro e w' ⟨rfl, hb2⟩)
                    | (go_at_call 24; refine (hrc _).mono ?_; rintro e w' ⟨rfl, hb2⟩))
                all_goals
                  obtain ⟨_, _, _, _, _, hR'⟩ := ‹_ ∧ _ ∧ _ ∧ _ ∧ _ ∧ AskRel w _ _ _ _›
                  go_wp2
                  go_roundw
                  case rel => exact ⟨k + 1, by omega, by omega, by go_num, hR'⟩
                  case measure => simp [intOf]; omega
              · have h15 : (15 : Int) ≤ k := by omega
                go_wp2
                go_roundw
                case rel => exact ⟨i + 1, by omega, by omega, by go_num, hR⟩
                case measure => simp [intOf]; omega
            · have hlk' : l.length ≤ k := by omega
              go_wp2
              go_roundw
              case rel => exact ⟨i + 1, by omega, by omega, by go_num, hR⟩
              case measure => simp [intOf]; omega
        · have h15 : (15 : Int) ≤ i := by omega
          go_wp2_with (go_at_call 14; refine (wakes_any _).mono ?_; rintro e w' ⟨rfl, hw⟩)
          go_ret
          exact ⟨rfl, (hR.step hw).bel⟩
      · have hli' : l.length ≤ i := by omega
        go_wp2_with (go_at_call 14; refine (wakes_any _).mono ?_; rintro e w' ⟨rfl, hw⟩)
        go_ret
        exact ⟨rfl, (hR.step hw).bel⟩
  · go_wp2
    go_ret
    exact ⟨rfl, hR1.bel⟩
end Go.Proofs.Ytkfhfennelckfaa
