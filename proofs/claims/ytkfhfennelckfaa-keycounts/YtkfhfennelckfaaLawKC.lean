/- The law KeyCounts' walk: it answers true, whatever ask comes in; it writes nothing that was there. -/
import Derived.Test.YtkfhfennelckfaaLawKS
namespace Go.Proofs.Ytkfhfennelckfaa
open Go.RowKit
set_option linter.unusedVariables false

theorem KS.addr {w : World} {a : Option Addr} {n cap : Nat} {l : List Ky} (h : KS w (.slice a n cap) l) (hl : 0 < l.length) : ∃ b off, a = some ⟨b, off, none⟩ := by
  obtain ⟨a', cap', e, h⟩ := h
  injection e with e1 e2 e3
  rcases h with rfl | ⟨b, off, h, _⟩
  · simp at hl
  · exact ⟨b, off, e1.trans h⟩
theorem NS.addr {w : World} {a : Option Addr} {n cap : Nat} {l : List Int} (h : NS w (.slice a n cap) l) (hl : 0 < l.length) : ∃ b off, a = some ⟨b, off, none⟩ := by
  obtain ⟨a', cap', e, h⟩ := h
  injection e with e1 e2 e3
  rcases h with rfl | ⟨b, off, h, _⟩
  · simp at hl
  · exact ⟨b, off, e1.trans h⟩
theorem NS.at {w : World} {b off n cap : Nat} {l : List Int} (h : NS w (.slice (some ⟨b, off, none⟩) n cap) l) {i : Nat} {y : Int} (hy : l[i]? = some y) : w.cell? ⟨b, off + i, none⟩ = some (.int .i64 y) := by
  obtain ⟨a, cap', e, h⟩ := h
  rcases h with rfl | ⟨b', off', rfl, _, hat⟩
  · simp at hy
  · injection e with e1 e2 e3
    injection e1 with e1
    injection e1 with e1 e4
    subst e1 e4
    exact hat i y hy
theorem rev_step {l : List Ky} {p : Nat} {y : Ky} (hy : l[p]? = some y) : (l.drop p).reverse = (l.drop (p + 1)).reverse ++ [y] := by
  have h := List.getElem?_eq_some_iff.1 hy
  rw [List.drop_eq_getElem_cons h.1, h.2, List.reverse_cons]
theorem Wf.reverse {l : List Ky} (h : Wf l) : Wf l.reverse := fun x hx => h x (List.mem_reverse.1 hx)

theorem sum_take : ∀ (ms : List Int) (k : Nat), (∀ m ∈ ms, 0 ≤ m) → 0 ≤ (ms.take k).sum ∧ (ms.take k).sum ≤ ms.sum
  | [], k, _ => by simp
  | m :: ms, 0, h => by
    have := sum_take ms 0 (fun x hx => h x (List.mem_cons_of_mem _ hx))
    have := h m List.mem_cons_self
    simp at *
    omega
  | m :: ms, k + 1, h => by
    have := sum_take ms k (fun x hx => h x (List.mem_cons_of_mem _ hx))
    have := h m List.mem_cons_self
    simp at *
    omega
theorem sum_next {ms : List Int} {k : Nat} {m : Int} (h : ms[k]? = some m) : (ms.take (k + 1)).sum = (ms.take k).sum + m := by
  rw [List.take_add_one, h]; simp
/-- What holds of the world in the last two loops. -/
structure CR (w W : World) (v : Value) (x : ByteArray) (l : List Ky) (va : Value) (ks : List Ky) (vm : Value) (ms : List Int) (vs : Value) (s : List Ky) : Prop where
  ask : AskRel w W v x l
  keys : KS W va ks
  nums : NS W vm ms
  srt : KS W vs s
theorem CR.step {w W W' : World} {v : Value} {x : ByteArray} {l : List Ky} {va : Value} {ks : List Ky} {vm : Value} {ms : List Int} {vs : Value} {s : List Ky} (h : CR w W v x l va ks vm ms vs s) (hb : Below W.heap.size W W') : CR w W' v x l va ks vm ms vs s :=
  ⟨h.ask.step hb, h.keys.below hb, h.nums.below hb, h.srt.below hb⟩
theorem CR.drew {w W : World} {v : Value} {x : ByteArray} {l : List Ky} {va : Value} {ks : List Ky} {vm : Value} {ms : List Int} {vs : Value} {s : List Ky} (h : CR w W v x l va ks vm ms vs s) : CR w W.drew v x l va ks vm ms vs s := h.step (Below.refl _ W).drew
theorem keepQ {w W : World} {v : Value} {x : ByteArray} {l : List Ky} {ks : List Ky} {ms : List Int} {vs : Value} {s : List Ky} {ba oa n ca bm om n' cm i p : Nat} {m : Int} {y z : Ky}
    (h : CR w W v x l (.slice (some ⟨ba, oa, none⟩) n ca) ks (.slice (some ⟨bm, om, none⟩) n' cm) ms vs s) (hm : ms[i]? = some m) (hz : ks[p]? = some z) (hy : ks[i]? = some y) :
    W.cell? ⟨bm, om + i, none⟩ = some (.int .i64 m) ∧ W.cell? ⟨ba, oa + p * 2, none⟩ = some (.int .i64 z.1) ∧ W.cell? ⟨ba, oa + p * 2 + 1, none⟩ = some (.string z.2) ∧ W.cell? ⟨ba, oa + i * 2, none⟩ = some (.int .i64 y.1) ∧ W.cell? ⟨ba, oa + i * 2 + 1, none⟩ = some (.string y.2) ∧
      CR w W v x l (.slice (some ⟨ba, oa, none⟩) n ca) ks (.slice (some ⟨bm, om, none⟩) n' cm) ms vs s :=
  ⟨h.nums.at hm, (h.keys.at hz).1, (h.keys.at hz).2, (h.keys.at hy).1, (h.keys.at hy).2, h⟩
theorem keepT {w W : World} {v : Value} {x : ByteArray} {l : List Ky} {va vm : Value} {ks : List Ky} {ms : List Int} {s : List Ky} {bs os n cs i p : Nat} {y z : Ky}
    (h : CR w W v x l va ks vm ms (.slice (some ⟨bs, os, none⟩) n cs) s) (hz : s[p]? = some z) (hy : s[i]? = some y) :
    W.cell? ⟨bs, os + p * 2, none⟩ = some (.int .i64 z.1) ∧ W.cell? ⟨bs, os + p * 2 + 1, none⟩ = some (.string z.2) ∧ W.cell? ⟨bs, os + i * 2, none⟩ = some (.int .i64 y.1) ∧ W.cell? ⟨bs, os + i * 2 + 1, none⟩ = some (.string y.2) ∧
      CR w W v x l va ks vm ms (.slice (some ⟨bs, os, none⟩) n cs) s :=
  ⟨(h.srt.at hz).1, (h.srt.at hz).2, (h.srt.at hy).1, (h.srt.at hy).2, h⟩
theorem pair_lt {ks : List Ky} (h : ks.Pairwise (fun x y => ltK x y = true)) {p : Nat} {y z : Ky} (hz : ks[p]? = some z) (hy : ks[p + 1]? = some y) : ltK z y = true := by
  obtain ⟨h1, rfl⟩ := List.getElem?_eq_some_iff.1 hz
  obtain ⟨h2, rfl⟩ := List.getElem?_eq_some_iff.1 hy
  exact List.pairwise_iff_getElem.1 h p (p + 1) h1 h2 (by omega)
theorem pair_le {ks : List Ky} (h : ks.Pairwise (fun x y => ltK y x = false)) {p : Nat} {y z : Ky} (hz : ks[p]? = some z) (hy : ks[p + 1]? = some y) : ltK y z = false := by
  obtain ⟨h1, rfl⟩ := List.getElem?_eq_some_iff.1 hz
  obtain ⟨h2, rfl⟩ := List.getElem?_eq_some_iff.1 hy
  exact List.pairwise_iff_getElem.1 h p (p + 1) h1 h2 (by omega)

set_option maxRecDepth 100000 in
set_option maxHeartbeats 3200000 in
theorem lawkc (v : Value) (x : ByteArray) (l : List Ky) (w : World) (h : KS w v l) (hl : l.length ≤ maxLen) (hwf : Wf l) :
    Calls Try.prog 5 #[.agg #[v, .string x]] w fun e w' => e = .returned (.bool true) ∧ Below w.heap.size w w' := by
  obtain ⟨i0, hi, hz0, hz1, hz2⟩ := info_parts Try.infoKey
  have hR0 := AskRel.start w v x l 24 h
  obtain ⟨a, cap, rfl, hshape⟩ := h
  go_enter Try.func5, Try.ntmps5
  go_wp2_with fail
  refine (heavy_any _ x l _ hR0.ks hl).mono ?_
  rintro e w1 ⟨⟨r, rfl, hr⟩, hb1⟩
  have hR1 := hR0.step hb1
  clear hR0 hb1
  cases r
  · obtain ⟨hl2, _⟩ := hr rfl
    clear hr
    have c0 := hR1.c0
    go_wp2
    go_loopw [3, 4] (fun bk i W => ∃ k : Nat, k ≤ l.length ∧ i = .int .i64 ((k : Int) - 1) ∧ OwnK W w1.heap.size bk (l.drop k).reverse ∧ Below w1.heap.size w1 W) (fun _ i _ => (intOf i + 1).toNat)
    case atStart => exact ⟨l.length, by omega, by first | rfl | go_num, by rw [List.drop_length]; exact World.ownsRow_nil _ _ _ _, Below.refl _ _⟩
    case round =>
      rename World => w2
      obtain ⟨k, hk, rfl, hobk, hb12⟩ := hrel
      have hR2 := hR1.step hb12
      have hsz := hb12.size
      clear c0
      have c0 := hR2.c0
      by_cases hk0 : k = 0
      · subst hk0
        rw [List.drop_zero] at hobk
        have hrl : l.reverse.length ≤ 1000 := by simp; omega
        go_wp2_with fail
        refine (kcount_any _ l _ hR2.ks hwf (by omega)).mono ?_
        rintro e w3 ⟨va, vm, ks, ms, rfl, hC1, hoa3, hom3, hb23⟩
        have hobk3 := hobk.below hb23
        have hR3 := hR2.step hb23
        clear hobk hb23 c0 hR2
        go_wp2_with fail
        refine (kcount_any _ l.reverse _ (KS.own hobk3) hwf.reverse hrl).mono ?_
        rintro e w4 ⟨vb, vn, ks', ms', rfl, hC2, hob4, hon4, hb34⟩
        obtain ⟨rfl, rfl⟩ := hC1.unique (hC2.perm (List.reverse_perm l))
        have hoa4 := hoa3.below hb34
        have hom4 := hom3.below hb34
        have hR4 := hR3.step hb34
        clear hobk3 hb34 hR3 hoa3 hom3 hC2
        have c0 := hR4.c0
        go_wp2_with fail
        refine (ksort_any _ l _ hR4.ks (by omega)).mono ?_
        rintro e w5 ⟨vs, s, rfl, hS, hos5, hb45⟩
        have hsl : s.length = l.length := hS.1.length_eq
        have hkl : ks.length ≤ 1000 := by have := hC1.le; omega
        have hml : ms.length = ks.length := hC1.length
        have hR5 := hR4.step hb45
        have hka5 := (KS.own hoa4).below hb45
        have hkb5 := (KS.own hob4).below hb45
        have hnm5 := (NS.own hom4).below hb45
        have hnn5 := (NS.own hon4).below hb45
        have hks5 := KS.own hos5
        clear hR4 hoa4 hob4 hom4 hon4 hos5 hb45 c0
        go_wp2_with fail
        refine (eqkeys_any _ _ ks ks _ hka5 hkb5 (by omega)).mono ?_
        rintro e w6 ⟨rfl, hd56⟩
        rw [sameB_of (rfl : ks = ks)]
        have hb56 := hd56.below w5.heap.size
        have hR6 := hR5.step hb56
        have hka6 := hka5.below hb56
        have hnm6 := hnm5.below hb56
        have hnn6 := hnn5.below hb56
        have hks6 := hks5.below hb56
        clear hR5 hka5 hkb5 hnm5 hnn5 hks5 hb56 hd56
        go_wp2_with fail
        refine (eqnums_any _ _ ms ms _ hnm6 hnn6 (by omega)).mono ?_
        rintro e w7 ⟨rfl, hd67⟩
        rw [sameB_of (rfl : ms = ms)]
        have hb67 := hd67.below w6.heap.size
        have hR7 := hR6.step hb67
        have hka7 := hka6.below hb67
        have hnm7 := hnm6.below hb67
        have hks7 := hks6.below hb67
        clear hR6 hka6 hnm6 hnn6 hks6 hb67 hd67
        obtain ⟨aa, ca, rfl⟩ : ∃ aa ca, va = .slice aa ks.length ca := by obtain ⟨a, c, e, _⟩ := hka7; exact ⟨a, c, e⟩
        obtain ⟨am, cm, rfl⟩ : ∃ aa ca, vm = .slice aa ks.length ca := by obtain ⟨a, c, e, _⟩ := hnm7; rw [hml] at e; exact ⟨a, c, e⟩
        obtain ⟨sx, cs, rfl⟩ : ∃ aa ca, vs = .slice aa l.length ca := by obtain ⟨a, c, e, _⟩ := hks7; rw [hsl] at e; exact ⟨a, c, e⟩
        have c0 := hR7.c0
        have hsum : ms.sum = l.length := hC1.sum
        go_wp2
        go_loopw [10, 11] (fun al i W => ∃ k : Nat, k ≤ ks.length ∧ i = .int .i64 k ∧ al = .int .i64 (ms.take k).sum ∧ CR w W (.slice a l.length cap) x l (.slice aa ks.length ca) ks (.slice am ks.length cm) ms (.slice sx l.length cs) s) (fun _ i _ => ks.length - (intOf i).toNat)
        case atStart => exact ⟨0, by omega, rfl, rfl, hR7, hka7, hnm7, hks7⟩
        case round =>
          clear hR7 hka7 hnm7 hks7 c0
          rename World => w8
          obtain ⟨k, hk, rfl, rfl, hR⟩ := hrel
          by_cases hlt : k < ks.length
          · obtain ⟨m, hm⟩ := getSome (l := ms) (i := k) (by omega)
            obtain ⟨⟨ya, yb⟩, hy⟩ := getSome hlt
            have hpos : ∀ m ∈ ms, 0 ≤ m := fun m hm => by
              obtain ⟨i, hi, rfl⟩ := List.getElem_of_mem hm
              have := hC1.pos hi
              omega
            have hm1 : 1 ≤ m := by
              obtain ⟨h1, rfl⟩ := List.getElem?_eq_some_iff.1 hm
              exact hC1.pos h1
            have hs1 := sum_take ms k hpos
            have hs2 := sum_take ms (k + 1) hpos
            have HN : Hid ((ms.take (k + 1)).sum = (ms.take k).sum + m) := sum_next hm
            rw [HN.out, hsum] at hs2
            obtain ⟨bm, om, rfl⟩ := hR.nums.addr (by omega)
            obtain ⟨ba, oa, rfl⟩ := hR.keys.addr (by omega)
            have d0 := hR.nums.at hm
            generalize hS0 : (ms.take k).sum = S0 at hs1 hs2 HN ⊢
            have hk1 : (0 : Int) ≤ k := by omega
            have hk2 : (k : Int) < ks.length := by omega
            have hm1' : decide (m < 1) = false := by simp; omega
            by_cases hk0 : k = 0
            · have hd : decide ((0 : Int) < (k : Int)) = false := by simp; omega
              have hd2 : decide (0 < k) = false := by simp; omega
              clear hk0 hS0
              go_wp2
              go_quiet (fail)
              go_wp2
              go_roundw
              case rel => exact ⟨k + 1, by omega, by go_num, by rw [HN.out], hR.step ⟨rfl, rfl, rfl, Nat.le_refl _, fun _ _ => rfl⟩⟩
              case measure => simp [intOf]; omega
            · obtain ⟨p, rfl⟩ : ∃ p, k = p + 1 := ⟨k - 1, by omega⟩
              obtain ⟨⟨za, zb⟩, hz⟩ := getSome (l := ks) (i := p) (by omega)
              have hwp : IntKind.i64.wrap (p : Int) = p := wrapN p (by omega)
              have hp0 : (0 : Int) ≤ p := by omega
              have hps : (p : Int) < ks.length := by omega
              have hd : decide ((0 : Int) < ((p + 1 : Nat) : Int)) = true := by simp
              have hp1 : (0 : Int) ≤ (p : Int) + 1 := by omega
              have hp2 : (p : Int) + 1 < ks.length := by omega
              have hkc := kcmp_below (za, zb) (ya, yb)
              rw [cfK_neg1 (pair_lt hC1.1 hz hy)] at hkc
              simp only at hkc
              clear hk0 hS0
              go_wp2
              go_region_held3 (fun W' => W'.cell? ⟨bm, om + (p + 1), none⟩ = some (.int .i64 m) ∧ W'.cell? ⟨ba, oa + p * 2, none⟩ = some (.int .i64 za) ∧ W'.cell? ⟨ba, oa + p * 2 + 1, none⟩ = some (.string zb) ∧
                  W'.cell? ⟨ba, oa + (p + 1) * 2, none⟩ = some (.int .i64 ya) ∧ W'.cell? ⟨ba, oa + (p + 1) * 2 + 1, none⟩ = some (.string yb) ∧ CR w W' (.slice a l.length cap) x l (.slice (some ⟨ba, oa, none⟩) ks.length ca) ks (.slice (some ⟨bm, om, none⟩) ks.length cm) ms (.slice sx l.length cs) s)
                (first
                  | exact keepQ hR.drew hm hz hy
                  | exact keepQ ((‹_ ∧ _ ∧ _ ∧ _ ∧ _ ∧ CR w _ _ _ _ _ _ _ _ _ _›).2.2.2.2.2.step (by assumption)) hm hz hy)
                (first | (go_at_call 23; refine (hkc _).mono ?_; rintro e w' ⟨rfl, hb2⟩))
              obtain ⟨_, _, _, _, _, hR'⟩ := ‹_ ∧ _ ∧ _ ∧ _ ∧ _ ∧ CR w _ _ _ _ _ _ _ _ _ _›
              go_wp2
              go_roundw
              case rel => exact ⟨p + 1 + 1, by omega, by go_num, by rw [HN.out], hR'⟩
              case measure => simp [intOf]; omega
          · have hlt' : ks.length ≤ k := by omega
            rw [List.take_of_length_le (by omega), hsum]
            have hS2 := hS.2
            go_wp2
            go_loopw [12] (fun i W => ∃ q : Nat, 1 ≤ q ∧ q ≤ l.length + 1 ∧ i = .int .i64 q ∧ CR w W (.slice a l.length cap) x l (.slice aa ks.length ca) ks (.slice am ks.length cm) ms (.slice sx l.length cs) s) (fun i _ => l.length + 1 - (intOf i).toNat)
            case atStart => exact ⟨1, by omega, by omega, rfl, hR⟩
            case round =>
              clear hR
              obtain ⟨q, hq1, hq, rfl, hR⟩ := hrel
              by_cases hlq : q < l.length
              · obtain ⟨p, rfl⟩ : ∃ p, q = p + 1 := ⟨q - 1, by omega⟩
                obtain ⟨⟨ya, yb⟩, hy⟩ := getSome (l := s) (i := p + 1) (by omega)
                obtain ⟨⟨za, zb⟩, hz⟩ := getSome (l := s) (i := p) (by omega)
                obtain ⟨bs, os, rfl⟩ := hR.srt.addr (by omega)
                have hwp : IntKind.i64.wrap (p : Int) = p := wrapN p (by omega)
                have hp0 : (0 : Int) ≤ p := by omega
                have hps : (p : Int) < l.length := by omega
                have hq0 : (0 : Int) ≤ ((p + 1 : Nat) : Int) := by omega
                have hqs : ((p + 1 : Nat) : Int) < l.length := by omega
                have hp1 : (0 : Int) ≤ (p : Int) + 1 := by omega
                have hp2 : (p : Int) + 1 < l.length := by omega
                have hkc := kcmp_below (za, zb) (ya, yb)
                have hne1 : ¬ cfK (za, zb) (ya, yb) = 1 := cfK_not1 (pair_le hS2 hz hy)
                simp only at hkc
                generalize cfK (za, zb) (ya, yb) = cc at hkc hne1
                have hne2 : (cc == 1) = false := by simpa using hne1
                have hne3 : decide (cc = 1) = false := by simpa using hne1
                go_wp2
                go_region_held3 (fun W' => W'.cell? ⟨bs, os + p * 2, none⟩ = some (.int .i64 za) ∧ W'.cell? ⟨bs, os + p * 2 + 1, none⟩ = some (.string zb) ∧
                    W'.cell? ⟨bs, os + (p + 1) * 2, none⟩ = some (.int .i64 ya) ∧ W'.cell? ⟨bs, os + (p + 1) * 2 + 1, none⟩ = some (.string yb) ∧ CR w W' (.slice a l.length cap) x l (.slice aa ks.length ca) ks (.slice am ks.length cm) ms (.slice (some ⟨bs, os, none⟩) l.length cs) s)
                  (first
                    | exact keepT hR.drew hz hy
                    | exact keepT ((‹_ ∧ _ ∧ _ ∧ _ ∧ CR w _ _ _ _ _ _ _ _ _ _›).2.2.2.2.step (by assumption)) hz hy)
                  (first | (go_at_call 23; refine (hkc _).mono ?_; rintro e w' ⟨rfl, hb2⟩))
                obtain ⟨_, _, _, _, hR'⟩ := ‹_ ∧ _ ∧ _ ∧ _ ∧ CR w _ _ _ _ _ _ _ _ _ _›
                go_wp2
                go_roundw
                case rel => exact ⟨p + 1 + 1, by omega, by omega, by go_num, hR'⟩
                case measure => simp [intOf]; omega
              · have hlq' : l.length ≤ q := by omega
                have c0 := hR.ask.c0
                go_wp2_with (go_at_call 14; refine (wakes_any _).mono ?_; rintro e w' ⟨rfl, hw⟩)
                go_ret
                exact ⟨rfl, (hR.ask.step hw).bel⟩
      · obtain ⟨p, rfl⟩ : ∃ p, k = p + 1 := ⟨k - 1, by omega⟩
        have e : ((p + 1 : Nat) : Int) - 1 = p := by omega
        rw [e]
        clear e
        obtain ⟨⟨ya, yb⟩, hy⟩ := getSome (l := l) (i := p) (by omega)
        obtain ⟨b, off, rfl⟩ := hR2.ks.addr (by omega)
        obtain ⟨d0, d1⟩ := hR2.ks.at hy
        simp only at d0 d1
        have hlen : (l.drop (p + 1)).reverse.length ≤ 200 := by simp; omega
        have hp0 : (0 : Int) ≤ p := by omega
        have hpl : (p : Int) < l.length := by omega
        go_wp2_with (at_builtin; refine wpList_append_own _ rfl _ _ 22 rfl w1.heap.size 30 i0 _ 2 24 Try.underlying22 hi hz0 hz1 hz2 rfl (by decide) _ _ _ rfl (hobk.alloc _) ⟨w2.heap.size, 0, none⟩ 1 1 [.int .i64 ya, .string yb] rfl rfl (cell_key_new _ _ _ _) (key_cells _ _) ?c3 ?c4 ?c5 ?_)
        case c3 => unfold maxLen; omega
        case c4 => omega
        case c5 => first | omega | (simp; omega)
        intro v3 w3 hown3 hgrow3 _
        have hb3 : Below w1.heap.size w1 w3 := (hb12.alloc hsz _).grown hgrow3 (by simp; omega) (own_row hobk)
        have hob3 : OwnK w3 w1.heap.size v3 (l.drop p).reverse := by
          rw [rev_step hy]
          exact OwnK.snoc (x := (ya, yb)) (by simpa using hown3) rfl
        clear hown3 hgrow3 hobk hb12 hR2 c0 d0 d1
        go_wp2
        go_roundw
        case rel => exact ⟨p, by omega, by go_num, hob3, hb3⟩
        case measure => simp [intOf]
  · go_wp2
    go_ret
    exact ⟨rfl, hR1.bel⟩
end Go.Proofs.Ytkfhfennelckfaa
