/- Texts laid together: LRBlk, LRParse. -/
import Derived.Test.YtkmnpaiippgnmabQA
import Derived.Deep.Cut
import Derived.Deep.CutRange
import Derived.Deep.CutBlock
/- The page's own reader of words: block. -/
namespace Go.Proofs.Ytkmnpaiippgnmab
open Go.RowKit
set_option linter.unusedVariables false
set_option maxRecDepth 100000

set_option maxHeartbeats 1600000 in
theorem rlist_all : ∀ N, ListP N := by
  intro N
  induction N with
  | zero => intro ws d m R G w h; omega
  | succ N IH =>
    intro ws0 d m0 R G w hN hd hm0 hW0 hr0
    have HH := hidR IH
    have hstart := hidR (LP.mk (R := R) (G := G) (d := d) (ws0 := ws0) (m0 := m0) (w := w) (v := .slice none 0 0) ⟨.nil, OwnF.nil _ _, by simp [Fo.len], fun r hr => by rw [Rs.pre_nil]; exact hr⟩ (World.grownBy.refl w _) hr0 hW0 hm0)
    obtain ⟨i0, hi, hz0, hz1, hz2⟩ := info_parts Try.infoOp
    have hRl := hr0.lt
    have hGl := hr0.2.1
    have hdi : (0 : Int) ≤ d := by omega
    clear IH hr0 hW0
    go_enter Try.func20, Try.ntmps20
    go_wp2
    go_loopg [6] ws0.length (fun gf v wr => ∃ (ws : List (List UInt8)) (m : Nat), ws.length = gf ∧ gf ≤ N ∧ LP R G d ws0 m0 w ws m v wr)
    case atStart => exact ⟨ws0, m0, rfl, by omega, hstart.out⟩
    case round =>
      obtain ⟨ws, m, hlen, hgN, hLL⟩ := hrel
      have HL := hidR hLL
      cases ws with
      | nil =>
        obtain ⟨ac, cc, c0, f0, _⟩ := hLL.rb.cells
        obtain ⟨acc, hown, hal, hpl⟩ := hLL.own
        obtain ⟨a, cap, hv⟩ := hown.len
        have HO := hidR hown
        by_cases hd0 : d = 0
        · subst hd0
          have HP := hidR (hpl _ (PL.end0 m))
          subst hv
          clear hLL hpl hown hlen
          go_wp2
          go_ret2
          refine ⟨_, HP.out, HL.out.grown, _, rfl, ?_, HL.out.rb⟩
          rw [Fo.app_nil]
          exact HO.out
        · have hd1 : (0 : Int) < d := by omega
          have HP := hidR (hpl _ (PL.endB (d := d) (by omega) m))
          subst hv
          clear hLL hpl hown hlen
          go_wp2
          go_ret2
          exact ⟨_, HP.out, HL.out.grown, rfl, by decide⟩
      | cons x ws =>
        simp only [List.length_cons] at hlen
        have hwl := hLL.ww.1
        simp only [List.length_cons] at hwl
        have hxw := hLL.ww.2 x (by simp)
        obtain ⟨o, cp, c0, c1, hcp, f0, hpop⟩ := hLL.rb.pop
        obtain ⟨acc, hown, hal, hpl⟩ := hLL.own
        obtain ⟨a, cap, hv⟩ := hown.len
        have HO := hidR hown
        have HPL := hidR hpl
        have HPOP := hidR hpop
        have Hn := hidR (fun W => number_any x W hxw.2)
        clear hpop hpl
        subst hv
        clear hLL hown
        obtain ⟨a', ha', hsl⟩ := slice_pop G o ws.length cp hcp
        have HLEN := hidR hlen
        have hpos : (0 : Int) < (ws.length : Int) + 1 := by omega
        clear hlen
        by_cases hsh : x = shutW
        · subst hsh
          have hx1 : (shutW == [93]) = true := by decide
          have hP1 := HPOP.out a' (cp - 1) (by rcases ha' with h | h; exact .inl (List.length_eq_zero_iff.1 h); exact .inr h) (by omega)
          by_cases hd0 : d = 0
          · subst hd0
            have HP := hidR (HPL.out _ (PL.bad (by simp) shut_none ws m))
            have HG := hidR (HL.out.grown.trans hP1.1)
            clear hP1
            go_wp2
            go_ret2
            exact ⟨_, HP.out, HG.out, rfl, by decide⟩
          · have hd1 : ((d : Int) == 0) = false := beq_eq_false_iff_ne.2 (by omega)
            have HP := hidR (HPL.out _ (PL.shut (d := d) (by omega) ws m))
            have HG := hidR hP1
            clear hP1
            go_wp2
            go_ret2
            refine ⟨_, HP.out, HL.out.grown.trans HG.out.1, _, rfl, ?_, HG.out.2⟩
            rw [Fo.app_nil]
            exact HO.out.keep (fun k hk hlt => HG.out.1.block k hlt (fun e => by injection e; omega))
        · have hx1 : (x == [93]) = false := beq_eq_false_iff_ne.2 hsh
          have hP1 := HPOP.out a' (cp - 1) (by rcases ha' with h | h; exact .inl (List.length_eq_zero_iff.1 h); exact .inr h) (by omega)
          have hB2 := Bx.new hP1.2 hP1.1 1 0 (.slice none 0 0)
          have hsz2 : (wr.setCell ⟨R, 0, none⟩ (.slice a' ws.length (cp - 1))).heap.size = wr.heap.size := by simp [World.setCell]
          rw [hsz2] at hB2
          have HWW := hidR HL.out.ww.tail
          have HSH := hidR hsh
          have hml := HL.out.many
          obtain ⟨bx, hbx⟩ : ∃ bx, wr.heap.size = bx := ⟨_, rfl⟩
          have HBX := hidR hbx
          clear hP1 hsz2 hsh
          go_upto_if 46 with (go_at_call 28; refine (Hn.out _).mono ?_; rintro e w1 ⟨rfl, rfl⟩)
          rw [hbx] at hB2
          obtain ⟨w1, hw1⟩ : ∃ w1, (wr.setCell ⟨R, 0, none⟩ (.slice a' ws.length (cp - 1))).alloc (.cells #[.int .i64 1, .int .i64 0, .slice none 0 0] 33) = w1 := ⟨_, rfl⟩
          rw [hw1] at hB2 ⊢
          have HB2 := hidR hB2
          clear hw1 hB2 hbx c0 c1 f0 hsl ha'
          go_cut [9, 10, 11, 12] from 15 to 130 (fun s9 s10 s11 s12 wx => ∃ kk nn, Hid (opW x = some (kk, nn)) ∧ Hid (Bx R G bx ws m kk nn (.slice none 0 0) wr wx))
          case first =>
            cases hnum : numOf x with
            | some n =>
              have HX := hidR (opW_numR hnum)
              have HB3 := hidR (HB2.out.set1 n)
              obtain ⟨_, ⟨p0, p1, p2⟩, q0, q1, q2⟩ := HB2.out.cells
              simp only [Option.getD_some, Option.isSome_some]
              clear hnum
              go_wp2
              go_meet
              exact ⟨_, _, HX, HB3⟩
            | none =>
              have HNUM := hidR hnum
              simp only [Option.getD_none, Option.isSome_none]
              clear hnum
              go_wp2_with fail
              refine (words_any w1).mono ?_
              rintro e w2 ⟨rfl, hcells, hb2⟩
              have HB3 := hidR (HB2.out.call hb2)
              have HC := hidR hcells
              clear hcells hb2
              go_wp2
              go_loop [11] (fun i => ∃ k : Nat, k ≤ 29 ∧ i = .int .i64 k ∧ Hid (∀ j, j < k → tab.getD (j + 2) [] ≠ x)) (fun i => 29 - (intOf i).toNat)
              case atStart => exact ⟨0, by omega, rfl, fun j hj => by omega⟩
              case round =>
                obtain ⟨k, hk, rfl, HK⟩ := hrel
                by_cases hk9 : k = 29
                · subst hk9
                  have HP := hidR (HPL.out _ (PL.bad (fun h => HSH.out h.1) (kind_noneR hxw.1 HK.out HNUM.out) ws m))
                  go_wp2
                  go_ret2
                  exact ⟨_, HP.out, HL.out.grown.trans HB3.out.gr, rfl, by decide⟩
                have hk1 : (k : Int) < 29 := by omega
                have hk0 : (0 : Int) ≤ k := by omega
                have hck := HC.out k (by omega)
                have hkf := kind_foundR (x := x) (k := k) (by omega)
                have hkn : tab.getD (k + 2) [] ≠ x → ∀ j, j < k + 1 → tab.getD (j + 2) [] ≠ x := by
                  intro h j hj
                  by_cases e : j = k
                  · subst e; exact h
                  · exact HK.out j (by omega)
                have HKF := hidR hkf
                have HKN := hidR hkn
                generalize tab.getD (k + 2) [] = y at hck HKF HKN
                clear hkf hkn
                by_cases hy : y = x
                · have hyx := hy.symm
                  subst hyx
                  have hX := HKF.out rfl HNUM.out
                  rw [show (k : Int) + 2 = 2 + (k : Int) by omega] at hX
                  have hy1 : (x == x) = true := beq_self_eq_true _
                  have HX := hidR hX
                  have HB4 := hidR (HB3.out.set0 (2 + (k : Int)))
                  obtain ⟨_, ⟨p0, p1, p2⟩, q0, q1, q2⟩ := HB3.out.cells
                  clear hX HKF HKN HK hy
                  go_wp2
                  go_meet
                  exact ⟨_, _, HX, HB4⟩
                · have hy1 : (y == x) = false := beq_eq_false_iff_ne.2 hy
                  have HK2 := hidR (HKN.out hy)
                  clear HKF HKN hy
                  go_wp2
                  go_round
                  case rel => exact ⟨k + 1, by omega, by go_num, HK2⟩
                  case measure => simp [intOf]; omega
          case rest =>
            obtain ⟨kk, nn, HX, HB3⟩ := hcut
            have hB5 := HB3.out.setM
            obtain ⟨⟨r1, r2⟩, _, _⟩ := HB3.out.cells
            obtain ⟨⟨s1, s2⟩, ⟨t0, t1, t2⟩, t3, t4, t5⟩ := hB5.cells
            have HB5 := hidR hB5
            clear hB5
            by_cases hm8 : m = 128
            · subst hm8
              have HP := hidR (HPL.out _ (PL.full HX.out d ws))
              go_wp2
              go_ret2
              exact ⟨_, HP.out, HL.out.grown.trans HB5.out.gr, rfl, by decide⟩
            have hm1 : (m : Int) + 1 ≤ 128 := by omega
            go_upto_region 23 with fail
            obtain ⟨W5, hW5⟩ : ∃ W5, wc.setCell ⟨R, 1, none⟩ (.int .i64 ((m : Int) + 1)) = W5 := ⟨_, rfl⟩
            rw [hW5] at HB5 t0 t1 t2 t3 t4 t5 ⊢
            clear hW5 s1 s2 r1 r2
            go_cut [90] from 15 to 130 (fun c wx => c = .bool (hasB kk) ∧ wx = W5)
            case first =>
              have hway : (hasB kk = false ∧ (kk == 28) = false ∧ (kk == 29) = false) ∨ (hasB kk = true ∧ ((kk == 28) = true ∨ ((kk == 28) = false ∧ (kk == 29) = true))) := by
                unfold hasB
                cases (kk == 28) <;> cases (kk == 29) <;> simp
              rcases hway with ⟨hb, e28, e29⟩ | ⟨hb, e28 | ⟨e28, e29⟩⟩
              all_goals
                have HHB := hidR hb
                clear hb
                go_wp2
                go_meet
                exact ⟨by rw [HHB.out], rfl⟩
            case rest =>
              obtain ⟨rfl, rfl⟩ := hcut
              clear t0 t1 t2
              go_upto_if 90 with fail
              go_cut [13, 14] from 15 to 130 (fun s13 s14 wx => ∃ (ws' : List (List UInt8)) (m' : Nat) (sv : Value) (bb : Fo) (lo1 : Nat), m' ≤ 128 ∧ m < m' ∧ Hid (ws'.length ≤ ws.length) ∧ Hid (WW ws') ∧ Hid (Bx R G bx ws' m' kk nn sv wr wx) ∧ Hid (FS (QO lo1) wx sv bb ∧ bx < lo1) ∧ Hid (∀ r, PL d ws' m' r → PL d (x :: ws) m (r.pre (one kk nn bb))))
              case first =>
                cases hb : hasB kk with
                | false =>
                  have HPN := hidR (fun r (hr : PL d ws (m + 1) r) => PL.one HX.out hb hm8 hr)
                  clear hb
                  go_wp2
                  go_meet
                  exact ⟨ws, m + 1, _, .nil, bx + 1, by omega, by omega, Nat.le_refl _, HWW, HB5, ⟨FS.nil _, by omega⟩, HPN⟩
                | true =>
                  have HK := hidR hb
                  clear hb
                  cases ws with
                  | nil =>
                    have HP := hidR (HPL.out _ (PL.cutB HX.out HK.out d hm8))
                    obtain ⟨ac, cc, c0, f0, _⟩ := HB5.out.rp.cells
                    go_wp2
                    go_ret2
                    exact ⟨_, HP.out, HL.out.grown.trans HB5.out.gr, rfl, by decide⟩
                  | cons z ws =>
                    obtain ⟨o2, cp2, c0, c1, hcp2, f0, hpop2⟩ := HB5.out.pop
                    have HPOP2 := hidR hpop2
                    clear hpop2
                    obtain ⟨a', ha', hsl⟩ := slice_pop G o2 ws.length cp2 hcp2
                    have hpos : (0 : Int) < (ws.length : Int) + 1 := by omega
                    have hposn : ((ws.length : Int) + 1 == 0) = false := beq_eq_false_iff_ne.2 (by omega)
                    by_cases hz : z = openW
                    · subst hz
                      have hz1 : (openW == [91]) = true := by decide
                      have hB6 := HPOP2.out a' (cp2 - 1) (by rcases ha' with h | h; exact .inl (List.length_eq_zero_iff.1 h); exact .inr h) (by omega)
                      have HB6 := hidR hB6
                      clear hB6 ha'
                      by_cases hd6 : 6 < d + 1
                      · have HP := hidR (HPL.out _ (PL.deepB HX.out HK.out hm8 hd6 ws))
                        have hdi : (6 : Int) < (d : Int) + 1 := by omega
                        go_wp2
                        go_ret2
                        exact ⟨_, HP.out, HL.out.grown.trans HB6.out.gr, rfl, by decide⟩
                      · have hdi : (d : Int) + 1 ≤ 6 := by omega
                        go_wp2_with fail
                        have hL := HH.out ws (d + 1) (m + 1) R G _ (by have := HLEN.out; simp at this; omega) (by omega) (by omega) HWW.out.tail HB6.out.rp
                        rw [show ((d + 1 : Nat) : Int) = (d : Int) + 1 by omega] at hL
                        refine hL.mono ?_
                        rintro e w7 ⟨r, hp, hg7, hres⟩
                        clear hL c0 c1 f0 hsl
                        have hs6 := HB6.out.blk.lt
                        cases r with
                        | err c =>
                          obtain ⟨rfl, hc0⟩ := hres
                          have hci : (c == 0) = false := beq_eq_false_iff_ne.2 hc0
                          have HP := hidR (HPL.out _ (PL.errB HX.out HK.out hm8 hd6 hp))
                          have HG := hidR (HL.out.grown.trans (HB6.out.gr.trans hg7))
                          clear hp hg7
                          go_wp2
                          go_ret2
                          exact ⟨_, HP.out, HG.out, rfl, hc0⟩
                        | ok f ws' m' =>
                          obtain ⟨v7, rfl, hown7, hr7⟩ := hres
                          obtain ⟨fu, hfu⟩ := hp
                          obtain ⟨_, _, hmt, hm2, u, hu⟩ := read_ok fu (d + 1) ws (m + 1) f ws' m' hfu (fun x hx => (HWW.out.tail.2 x hx).1) (by omega) (by omega)
                          have hmlt : m < m' := by omega
                          have HPN := hidR (fun r (hr : PL d ws' m' r) => PL.blk HX.out HK.out hm8 hd6 ⟨fu, hfu⟩ hr)
                          obtain ⟨a2, cap2, rfl⟩ := hown7.len
                          have hB7 := HB6.out.deep hg7 hr7
                          have hB8 := hB7.set2 (.slice a2 f.len cap2)
                          have HB := hidR hB8
                          obtain ⟨_, ⟨v0, v1, v2⟩, x0, x1, x2⟩ := hB7.cells
                          have HWN : Hid (WW ws') := by have := HWW.out.tail; rw [hu] at this; exact this.suffix
                          have HLN : Hid (ws'.length ≤ (openW :: ws).length) := by unfold Hid; rw [hu]; simp; omega
                          have HIN := hidR (And.intro (hown7.fs.keep (w' := w7.setCell ⟨bx, 2, none⟩ (.slice a2 f.len cap2)) (fun j hj hlt => Below.heap_setCell _ _ _ _ (by show j ≠ bx; omega))) hs6)
                          clear hmt hu hfu hown7 hr7 hB7 hB8 hg7 hs6
                          go_wp2
                          go_meet
                          exact ⟨ws', m', _, f, _, hm2, hmlt, HLN, HWN, HB, HIN, HPN⟩
                    · have hz1 : (z == [91]) = false := beq_eq_false_iff_ne.2 hz
                      have HP := hidR (HPL.out _ (PL.badB HX.out HK.out d hm8 hz ws))
                      go_wp2
                      go_ret2
                      exact ⟨_, HP.out, HL.out.grown.trans HB5.out.gr, rfl, by decide⟩
              case rest =>
                obtain ⟨ws', m', sv, bb, lo1, hm2, hmlt, HLN, HWN, HB, HFS, HPB⟩ := hcut
                rename World => wd
                obtain ⟨a2, cap2, hsv⟩ := HFS.out.1.val
                subst hsv
                have HPN := hidR (fun r (hr : PL d ws' m' r) => by have := HPL.out _ (HPB.out r hr); rw [Rs.pre_pre] at this; exact this)
                have hub : ∀ j, (Value.slice a acc.len cap).ownBlock = some j → j < wr.heap.size := by
                  intro j hj
                  obtain ⟨l', ho', _⟩ := HO.out
                  exact (ho'.lt j hj).2
                have hbw := HB.out.sz
                have hwz := HL.out.grown.size
                have hbl := HFS.out.2
                have HIN : Hid (FS (QX w.heap.size (.slice a acc.len cap)) (wd.alloc (.cells #[.int .i64 kk, .int .i64 nn, .slice a2 bb.len cap2] 33)) (.slice a2 bb.len cap2) bb) := by
                  refine inner_fs HFS.out.1 (fun j hj hlt => Below.heap_alloc _ _ _ hlt) (by omega) (fun j hj => ?_)
                  have := hub j hj
                  omega
                obtain ⟨l, hol, hrl⟩ := HB.out.own hRl HO.out
                obtain ⟨_, ⟨y0, y1, y2⟩, _⟩ := HB.out.cells
                have hll := hrl.len
                have hol := hidR hol
                have hrl := hidR hrl
                have hl1 : l.length + 1 ≤ 129 := by omega
                have hal2 : acc.len + 1 ≤ m' := by omega
                clear hll hub hbw hwz hbl
                go_wp2_with (at_builtin; refine wpList_append_own_at _ rfl _ _ 23 rfl w.heap.size 33 i0 _ 3 40 Try.underlying23 hi hz0 hz1 hz2 rfl (by decide) (.slice a acc.len cap) l.length (flatO l) rfl ?ecO ⟨_, 0, none⟩ 1 1 [.int .i64 kk, .int .i64 nn, .slice a2 bb.len cap2] rfl rfl ?ecN (op_cells _ _ _ _ _) ?ec3 ?ec4 ?ec5 ?_)
                case ecO => exact owns_below hol.out ((Below.refl _ _).alloc (Nat.le_refl _) _)
                case ecN => exact news3 (new3s (by simp) _ _ _ _)
                case ec3 => unfold maxLen; omega
                case ec4 => omega
                case ec5 => have h1 := HB.out.gr.size; have h2 := HL.out.grown.size; simp; omega
                intro v3 w3 hown3 hgrow3 _ hat3
                have HF := hidR (lp_next (ws0 := ws0) (m0 := m0) (d := d) hRl hGl hol.out hrl.out (HL.out.grown.trans HB.out.gr) HB.out.rp HWN.out hm2 (by omega) HPN.out HIN.out hown3 hgrow3 (by simpa using hat3))
                clear hown3 hgrow3 hat3
                go_wp2
                go_roundg ws'.length
                case measure => have := HLEN.out; have := HLN.out; omega
                case rel => exact ⟨ws', _, rfl, by have := HLEN.out; have := HLN.out; omega, HF.out⟩
end Go.Proofs.Ytkmnpaiippgnmab
/- The page's own: Parse. -/
namespace Go.Proofs.Ytkmnpaiippgnmab
open Go.RowKit
set_option linter.unusedVariables false
set_option maxRecDepth 100000

theorem rp_new {w1 : World} {base : Nat} {v : Value} {ws : List (List UInt8)} (h : OwnS w1 base v (ws.map ba)) (h7 : 0 < w1.heap.size) : ∃ G, RP (w1.alloc (.cells #[v, .int .i64 0] 58)) w1.heap.size G ws 0 := by
  rcases h.2 with ⟨rfl, h0⟩ | ⟨g, cap, cur, rfl, _, hb, hc, _, _, ht⟩
  · have hw : ws = [] := by simpa using h0
    subst hw
    exact ⟨0, by omega, by simp, none, 0, 0, heap_alloc_new w1 _, by simp, .inl rfl, fun i x hx => by simp at hx⟩
  · have hg : g < w1.heap.size := (Array.getElem?_eq_some_iff.1 hb).1
    refine ⟨g, by omega, by simp; omega, some ⟨g, 0, none⟩, cap, 0, ?_, by simpa using hc, .inr rfl, fun i x hx => ?_⟩
    · have := heap_alloc_new w1 (.cells #[.slice (some ⟨g, 0, none⟩) (ws.map ba).length cap, .int .i64 0] 58)
      rw [this]
      simp
    · rw [World.cell?_of_block (a := ⟨g, 0 + i, none⟩) (Below.heap_alloc _ _ _ hg)]
      exact strsAt_of_block hb ht i x hx
set_option maxHeartbeats 400000 in
theorem rparse_any (s : ByteArray) (w : World) (hs : s.size ≤ 140737488351232) (h0 : 0 < w.heap.size) :
    Calls Try.prog 11 #[.string s] w fun e w' => ∃ r, Prog s r ∧ Below w.heap.size w w' ∧ PRes w w' e r := by
  by_cases h5 : 512 < s.size
  · have h5i : (512 : Int) < (s.size : Int) := by omega
    have HP : Hid (Prog s (.err 2)) := by unfold Hid Prog; rw [if_pos h5]
    go_enter Try.func11, Try.ntmps11
    go_wp2
    go_ret2
    exact ⟨_, HP.out, Below.refl _ _, rfl, by decide⟩
  · have h5i : ¬ (512 : Int) < (s.size : Int) := by omega
    have h5j : (s.size : Int) ≤ 512 := by omega
    have Hf := hidR (split_any s w (by omega))
    have hww := ww_split s (by omega)
    go_enter Try.func11, Try.ntmps11
    go_wp2_with (go_at_call 19; refine Hf.out.mono ?_)
    rintro e w1 v rfl hown hb1
    have hs1 := hb1.size
    obtain ⟨G, hrb⟩ := rp_new (ws := splitG [] (L s)) hown (by omega)
    have hb2 := (Below.refl w1.heap.size w1).alloc (Nat.le_refl _) (.cells #[v, .int .i64 0] 58)
    have hL := rlist_all _ (splitG [] (L s)) 0 0 w1.heap.size G _ (Nat.lt_succ_self _) (by omega) (by omega) hww hrb
    rw [show ((0 : Nat) : Int) = 0 from rfl] at hL
    have HL := hidR hL
    have HB := hidR (hb1.trans (hb2.mono hb1.size))
    obtain ⟨a, cap, rfl⟩ := OwnS.shape hown
    clear hL hrb hown hb1 hb2
    go_wp2_with (go_at_call 20; refine HL.out.mono ?_)
    rintro e w3 ⟨r, hp, hg, hres⟩
    have hbel := HB.out.grown hg (by simp; omega) (fun k hk => by injection hk; omega)
    have HP : Hid (Prog s r) := by unfold Hid Prog; rw [if_neg h5]; exact hp
    have HBE := hidR hbel
    clear hp hbel hg
    cases r with
    | err c =>
      obtain ⟨rfl, hc0⟩ := hres
      go_wp2
      go_ret2
      exact ⟨_, HP.out, HBE.out, rfl, hc0⟩
    | ok f ws' m' =>
      obtain ⟨v, rfl, hown, _⟩ := hres
      have HO := hidR hown
      obtain ⟨a', cap', rfl⟩ := hown.len
      clear hown
      go_wp2
      go_ret2
      exact ⟨_, HP.out, HBE.out, _, rfl, HO.out.lower (by simp; omega)⟩
end Go.Proofs.Ytkmnpaiippgnmab
