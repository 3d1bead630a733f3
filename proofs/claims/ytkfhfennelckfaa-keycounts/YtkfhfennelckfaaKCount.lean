/- key.Count: gathered by the keys of a map, sorted, counted. -/
import Derived.Test.YtkfhfennelckfaaKMapLaw
import Derived.Test.YtkfhfennelckfaaKSort
import Derived.Test.YtkfhfennelckfaaKRCount
import Derived.RegionTactic
import Derived.ChangeAlike
import Derived.Sort.OwnSorted
import Derived.Test.YtkfhfennelckfaaKAsk
namespace Go.Proofs.Ytkfhfennelckfaa
open Go.RowKit Go.Maps
set_option linter.unusedVariables false

theorem row_ne_map {w : World} {B n base m : Nat} {D : DataW Unit} {e : TypeId} {size : Nat} {v : Value} {xs : List Value} (h : w.ownsRow base e size v m xs) (hm : w.ownsMap Try.prog 30 RI B n D) : some B ≠ v.ownBlock := by
  obtain ⟨es, clock, hb, _⟩ := hm
  rcases h.2 with ⟨rfl, _⟩ | ⟨g, cap, cur, rfl, _, hg, _⟩
  · simp [Value.ownBlock]
  · intro e1
    have : B = g := by simpa [Value.ownBlock] using e1
    subst this
    rw [hb] at hg
    cases hg
theorem invK (key : Value) (kl : Lit) (h : keyOf Try.prog 30 key = some kl) : ∃ x : Ky, key = keyV x := by
  obtain ⟨x, hx, _⟩ := key_inv h
  exact ⟨x, hx⟩
theorem invV (v : Value) (y : DataW Unit × List MemPlace) (h : RI v = some y) : ∃ c : Int, v = .int .i64 c := by
  obtain ⟨c, rfl, _⟩ := plainElem_int_inv Try.underlying3 h
  exact ⟨c, rfl⟩
theorem key_back {x : Ky} {kl : Lit} (h : keyOf Try.prog 30 (keyV x) = some kl) : kl = klOf x ∧ Good x := by
  obtain ⟨x', e, rfl, hg⟩ := key_inv h
  injection e with e
  injection e with e
  injection e with e1 e2
  injection e1 with _ e1
  injection e2 with e2 _
  injection e2 with e2
  obtain rfl : x = x' := Prod.ext e1 e2
  exact ⟨rfl, hg⟩

set_option maxRecDepth 100000 in
set_option maxHeartbeats 1600000 in
theorem kcount_any (v : Value) (l : List Ky) (w : World) (h : KS w v l) (hwf : Wf l) (hl : l.length ≤ 1000) :
    Calls Try.prog 17 #[v] w fun e w' => CountPost l w e w' := by
  obtain ⟨i0, hi, hz0, hz1, hz2⟩ := info_parts Try.infoKey
  obtain ⟨i1, hj, hy0, hy1, hy2⟩ := info_parts Try.info3
  obtain ⟨a, cap, rfl, hshape⟩ := h
  have hmm := @run_makeMap Try.prog
  go_enter Try.func17, Try.ntmps17
  go_wp2
  go_loopw [13] (fun i wr => ∃ (k : Nat) (D : DataW Unit), k ≤ l.length ∧ i = .int .i64 k ∧ wr.ownsMap Try.prog 30 RI w.heap.size k D ∧ MapIs D (l.take k) ∧ Below w.heap.size w wr) (fun i _ => l.length - (intOf i).toNat)
  case atStart => exact ⟨0, _, by omega, rfl, World.ownsMap_made _ _ _ _, MapIs.start, (Below.refl _ _).alloc (Nat.le_refl _) _⟩
  case round =>
    rename World => w0
    obtain ⟨k, D, hk, rfl, hom, hD, hbel⟩ := hrel
    have hsz := hbel.size
    by_cases hlt : k < l.length
    · obtain ⟨⟨ya, yb⟩, hy⟩ := getSome hlt
      have hgood : Good (ya, yb) := hwf _ (List.mem_of_getElem? hy)
      have hstep : l.take (k + 1) = l.take k ++ [(ya, yb)] := by rw [List.take_add_one, hy]; rfl
      rcases hshape with rfl | ⟨b, off, rfl, hb, hat⟩
      · simp at hlt
      obtain ⟨c0, c1⟩ := hat.below hbel hb k _ hy
      simp only at c0 c1
      have hkm : k < maxLen := by unfold maxLen; omega
      have homD := (hom.alloc (.cells #[.int .i64 ya, .string yb] 30)).drew
      obtain ⟨c, st, W1, hatk, r1, r2, r3, r4⟩ := entry_plus homD hkm hgood
      have HC : Hid (c = (cnt (l.take k) (ya, yb) : Int)) := by
        have := (hD.2 _ hgood).2
        rw [hatk] at this
        injection this with this
        injection this
      have hcl := cnt_le (l.take k) (ya, yb)
      have hc0 : 0 ≤ c := by rw [HC.out]; omega
      have hc1 : c ≤ 1000 := by rw [HC.out]; simp at hcl; omega
      obtain ⟨W2, r5, hom2, hg2⟩ := r4 (c + 1) (wf_i64 (by omega))
      have HD : Hid (MapIs (D.put (klOf (ya, yb)) (i64 (c + 1))) (l.take (k + 1))) := by
        unfold Hid
        rw [hstep, HC.out]
        exact hD.step hgood
      have hbel2 : Below w.heap.size w W2 := ((hbel.alloc hsz _).drew).grown hg2 (by simp; omega) (fun k hk => by injection hk with hk; omega)
      clear r4 homD hcl
      simp only [keyV] at r1 r2 r3
      go_wp2
      go_region
      all_goals
        go_wp2
        go_roundw
        case rel => exact ⟨k + 1, _, by omega, by go_num, hom2, HD.out, hbel2⟩
        case measure => simp [intOf]; omega
    · have hlt' : l.length ≤ k := by omega
      rw [List.take_of_length_le hlt'] at hD
      have hgl : ∀ x ∈ l, Good x := hwf
      go_wp2_with (at_range; refine wpList_range_own _ rfl _ 57 rfl 30 3 law Try.underlying57 RI w.heap.size k D rfl hom ?_; intro w1 hrg1 hgr1 hs1)
      have hbel1 : Below w.heap.size w w1 := hbel.grown hgr1 hsz (fun k hk => by cases hk)
      clear hs1 hgr1 hbel hom
      go_frame
      go_loopw [2] (fun v2 wr => ∃ left cn ss, wr.ranges Try.prog 30 RI w.heap.size w0.heap.size k D left cn ∧ Met l left ss ∧ OwnK wr w.heap.size v2 ss ∧ Below w.heap.size w wr) (fun _ wr => wr.rangeLeft w.heap.size w0.heap.size)
      case atStart => exact ⟨_, _, [], hrg1, Met.start hD, World.ownsRow_nil _ _ _ _, hbel1⟩
      case round =>
        clear hrg1 hbel1
        rename World => w2
        obtain ⟨left, cn, ss, hrg, hM, hok, hbel⟩ := hrel
        have hsz2 := hbel.size
        have hssl : ss.length ≤ l.length := nodup_le hM.1 (fun x hx => ((hM.2.2 x (hM.2.1 x hx)).1 hx).1)
        go_wp2_with (at_next; refine wpList_next_ranges _ rfl _ rfl 30 law RI keyV (Value.int .i64) invK invV w.heap.size w0.heap.size k _ _ _ rfl hrg ?_ ?_)
        · intro _ hl0
          have hs3 := sortFunc_own _ w.heap.size ss w2 hok hsz2 (by omega)
          have hom2 := hrg.owns
          have hne2 := row_ne_map hok hom2
          go_wp2_with fail
          refine hs3.mono ?_
          rintro e w3 ⟨rfl, s, hsrt, hok3, hgr3⟩
          have hC := hM.fin hgl hl0 hsrt
          have hom3 := hom2.kept hgr3 hne2
          have hbel3 : Below w.heap.size w w3 := hbel.grown hgr3 hsz2 (own_row hok)
          have hssl2 : s.length ≤ 1000 := by rw [hsrt.1.length_eq]; omega
          clear hs3 hom2 hne2 hgr3 hok hrg hM hl0 hbel hsrt hsz2 hssl
          rcases hok3.2 with ⟨rfl, h0⟩ | ⟨g, cp, cur, hv, hg, hgb, hn1, hn2, hn3, hn4⟩
          · obtain rfl : s = [] := List.length_eq_zero_iff.1 h0
            go_wp2
            go_loop [3, 38] (fun a i => a = .slice none 0 0 ∧ i = .int .i64 0) (fun _ _ => 0)
            case atStart => exact ⟨rfl, rfl⟩
            case round =>
              obtain ⟨rfl, rfl⟩ := hrel
              go_wp2
              go_ret2
              exact ⟨_, _, [], [], rfl, hC, World.ownsRow_nil _ _ _ _, World.ownsRow_nil _ _ _ _, hbel3⟩
          · subst hv
            clear hg hgb hn1 hn2 hn3 hn4
            go_wp2
            go_loopw [3, 38] (fun a i wr => ∃ q : Nat, q ≤ s.length ∧ i = .int .i64 q ∧ OwnN wr w.heap.size a ((s.take q).map fun x => (cnt l x : Int)) ∧ OwnK wr w.heap.size (.slice (some ⟨g, 0, none⟩) s.length cp) s ∧ wr.ownsMap Try.prog 30 RI w.heap.size k D ∧ Below w.heap.size w wr) (fun _ i _ => s.length - (intOf i).toNat)
            case atStart => exact ⟨0, by omega, rfl, World.ownsRow_nil _ _ _ _, hok3, hom3, hbel3⟩
            case round =>
              clear hok3 hom3 hbel3
              rename World => w4
              obtain ⟨q, hq, rfl, hon, hok, hom, hbel⟩ := hrel
              have hsz4 := hbel.size
              by_cases hlq : q < s.length
              · obtain ⟨⟨xa, xb⟩, hx⟩ := getSome hlq
                have hgx : Good (xa, xb) := hgl _ ((hC.2.1 _).1 (List.mem_of_getElem? hx))
                have hstep : s.take (q + 1) = s.take q ++ [(xa, xb)] := by rw [List.take_add_one, hx]; rfl
                have hlk : ((s.take q).map fun x => (cnt l x : Int)).length = q := by simp; omega
                obtain ⟨c0, c1⟩ := (KS.own hok).at hx
                rw [Nat.zero_add] at c0 c1
                simp only at c0 c1
                have HATX : Hid (D.atKey (klOf (xa, xb)) (i64 0) = i64 (cnt l (xa, xb))) := (hD.2 _ hgx).2
                have hkey := key_mk hgx
                simp only at hkey
                go_wp2_with (at_lookup; refine wpList_lookup_own_int _ rfl _ _ 57 rfl 30 3 .i64 law Try.underlying57 Try.underlying3 (zeroE _) w.heap.size k D rfl (hom.alloc _) _ _ rfl hkey ?_)
                intro c hat hwc
                have hc : c = (cnt l (xa, xb) : Int) := by
                  have := HATX.out
                  rw [hat] at this
                  injection this with this
                  injection this
                have hstep2 : ((s.take (q + 1)).map fun x => (cnt l x : Int)) = ((s.take q).map fun x => (cnt l x : Int)) ++ [c] := by rw [hstep, List.map_append, hc]; rfl
                have hon1 := (hon.alloc (.cells #[.int .i64 xa, .string xb] 30)).alloc (.cells #[.int .i64 c] 3)
                have hnw : ∀ j u, [Value.int .i64 c][j]? = some u → ((w4.alloc (.cells #[.int .i64 xa, .string xb] 30)).alloc (.cells #[.int .i64 c] 3)).cell? ((⟨w4.heap.size + 1, 0, none⟩ : Addr).add j) = some u := by
                  have := cell_one_new (w4.alloc (.cells #[.int .i64 xa, .string xb] 30)) (.int .i64 c) 3
                  rwa [show (w4.alloc (.cells #[.int .i64 xa, .string xb] 30)).heap.size = w4.heap.size + 1 by simp] at this
                rw [hlk] at hon1
                clear hc hat hwc HATX hkey c0 c1
                go_wp2_with (at_builtin; refine wpList_append_own _ rfl _ _ 41 rfl w.heap.size 3 i1 _ 1 8 Try.underlying41 hj hy0 hy1 hy2 rfl (by decide) _ _ _ rfl hon1 ⟨w4.heap.size + 1, 0, none⟩ 1 1 [.int .i64 c] rfl rfl hnw (ints_oneCell .i64 [c]) ?c3 ?c4 ?c5 ?_)
                case c3 => unfold maxLen; omega
                case c4 => omega
                case c5 => first | omega | (simp; omega)
                intro v5 w5 hown5 hgrow5 _
                have e5 : List.map (Value.int .i64) (List.map (fun x => (cnt l x : Int)) (s.take q)) = List.take q (List.map (Value.int .i64 ∘ fun x => (cnt l x : Int)) s) := by simp [List.map_take]
                rw [← e5] at hown5
                have hgall := (World.grownBy_alloc w4 (.cells #[.int .i64 xa, .string xb] 30) _).trans ((World.grownBy_alloc (w4.alloc (.cells #[.int .i64 xa, .string xb] 30)) (.cells #[.int .i64 c] 3) _).trans hgrow5)
                have hon5 : OwnN w5 w.heap.size v5 ((s.take (q + 1)).map fun x => (cnt l x : Int)) := by rw [hstep2]; exact OwnN.snoc hown5 hlk.symm
                have hok5 := hok.kept hgall (rows_apart hok hon)
                have hom5 := hom.kept hgall (row_ne_map hon hom)
                have hbel5 : Below w.heap.size w w5 := hbel.grown hgall hsz4 (own_row hon)
                clear hown5 hgrow5 hgall hon hok hom hbel hnw hon1
                go_wp2
                go_roundw
                case rel => exact ⟨q + 1, by omega, by go_num, hon5, hok5, hom5, hbel5⟩
                case measure => simp [intOf]; omega
              · have hlq' : s.length ≤ q := by omega
                rw [List.take_of_length_le hlq'] at hon
                go_wp2
                go_ret2
                exact ⟨_, _, s, _, rfl, hC, hok, hon, hbel⟩
        · intro xa xb c kl yd yp w3 cn3 hkey hlk hv hatk hrg3 hltc hg3 hs3 hen
          obtain ⟨rfl, hgx⟩ := key_back hkey
          have hM3 := hM.step hD hgx hlk hatk
          have hok3 : OwnK w3 w.heap.size _ ss := hok.kept hg3 (.inr (Ne.symm (row_ne_iter hok hrg)))
          have hbel3 : Below w.heap.size w w3 := hbel.grown hg3 hsz2 (fun k hk => by injection hk with hk; omega)
          have hsz3 := hbel3.size
          have HL : Hid (w2.rangeLeft w.heap.size w0.heap.size = cn) := hrg.left_eq
          simp only [keyV] at hen
          clear hs3 hkey hlk hv hatk hg3 hok hbel hM hrg
          have hnw : ∀ j u, [Value.int .i64 xa, .string xb][j]? = some u → ((w3.alloc (.cells #[.int .i64 xa, .string xb] 30)).alloc (.cells #[.int .i64 xa, .string xb] 30)).cell? ((⟨w3.heap.size + 1, 0, none⟩ : Addr).add j) = some u := by
            have := cell_key_new (w3.alloc (.cells #[.int .i64 xa, .string xb] 30)) xa xb 30
            rwa [show (w3.alloc (.cells #[.int .i64 xa, .string xb] 30)).heap.size = w3.heap.size + 1 by simp] at this
          go_wp2_with (at_builtin; refine wpList_append_own _ rfl _ _ 22 rfl w.heap.size 30 i0 _ 2 24 Try.underlying22 hi hz0 hz1 hz2 rfl (by decide) _ _ _ rfl ((hok3.alloc _).alloc _) ⟨w3.heap.size + 1, 0, none⟩ 1 1 [.int .i64 xa, .string xb] rfl rfl hnw (key_cells _ _) ?c3 ?c4 ?c5 ?_)
          case c3 => unfold maxLen; omega
          case c4 => omega
          case c5 => first | omega | (simp; omega)
          intro v4 w4 hown4 hgrow4 _
          have hok4 : OwnK w4 w.heap.size v4 (ss ++ [(xa, xb)]) := OwnK.snoc (x := (xa, xb)) hown4 rfl
          have hgall := (World.grownBy_alloc w3 (.cells #[.int .i64 xa, .string xb] 30) _).trans ((World.grownBy_alloc (w3.alloc (.cells #[.int .i64 xa, .string xb] 30)) (.cells #[.int .i64 xa, .string xb] 30) _).trans hgrow4)
          have hrg4 := hrg3.kept hgall (row_ne_map hok3 hrg3.owns) (row_ne_iter hok3 hrg3)
          have hbel4 : Below w.heap.size w w4 := hbel3.grown hgall hsz3 (own_row hok3)
          have HLT : Hid (w4.rangeLeft w.heap.size w0.heap.size < w2.rangeLeft w.heap.size w0.heap.size) := by unfold Hid; rw [hrg4.left_eq, HL.out]; exact hltc
          clear hown4 hgrow4 hgall hok3 hrg3 hbel3 hnw hltc HL
          go_wp2
          go_roundw
          case rel => exact ⟨_, _, _, hrg4, hM3, hok4, hbel4⟩
          case measure => exact HLT.out
end Go.Proofs.Ytkfhfennelckfaa
