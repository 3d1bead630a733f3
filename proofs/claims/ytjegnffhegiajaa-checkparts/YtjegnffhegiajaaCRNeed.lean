/- The page's own: need, Need, Check. -/
import Derived.Test.YtjegnffhegiajaaCNeed
import Derived.Test.YtjegnffhegiajaaLOkAt
namespace Go.Proofs.Ytjegnffhegiajaa
open Go.RowKit
set_option linter.unusedVariables false
set_option maxRecDepth 100000

/-- What the page's need tells. -/
def RNR (f : Fo) (h fl m : Int) (e : Ending) : Prop :=
  (∃ l p, nd f h fl m = some (l, p) ∧ e = .returned (.tuple #[.int .i64 l, .int .i64 p, .bool true])) ∨ (nd f h fl m = none ∧ e = .returned (.tuple #[.int .i64 0, .int .i64 0, .bool false]))
/-- Where it has come to. -/
def RNL (f : Fo) (h fl m : Int) (k : Nat) (h' m' : Int) : Prop := nd f h fl m = nd (f.drop k) h' fl m'
theorem alone_bd {k n : Int} {b : Fo} (h : alone k n b = true) : 1 ≤ k ∧ k ≤ 30 := by
  unfold alone at h
  simp only [Bool.and_eq_true, decide_eq_true_eq] at h
  omega
set_option maxHeartbeats 1600000 in
theorem rneed_sz : ∀ (s : Nat) (f : Fo) (v : Value) (w : World) (h fl m : Int) (d : Nat), f.sz ≤ s → FS QA w v f → f.len ≤ 3518437208780 → WfB f → okF f d = true → 0 ≤ fl → fl ≤ h → h ≤ m → m ≤ 16 →
    Calls Try.prog 23 #[v, .int .i64 h, .int .i64 fl, .int .i64 m] w fun e w' => RNR f h fl m e ∧ w' = w := by
  intro s
  induction s with
  | zero =>
    intro f v w h fl m d hs hf hl hwf hok h0 h1 h2 h3
    obtain rfl : f = .nil := by cases f with
      | nil => rfl
      | cons k n b r => simp [Fo.sz] at hs
    obtain ⟨a, cap, rfl⟩ := hf.val
    simp only [Fo.len]
    clear hs hl hwf hf hok
    go_enter Try.func23, Try.ntmps23
    go_wp2
    go_loop [1, 3, 11] (fun x y i => x = .int .i64 h ∧ y = .int .i64 m ∧ i = .int .i64 0) (fun _ _ _ => 0)
    case atStart => exact ⟨rfl, rfl, rfl⟩
    case round =>
      obtain ⟨rfl, rfl, rfl⟩ := hrel
      go_wp2
      go_ret3
      exact ⟨.inl ⟨h, m, rfl, rfl⟩, rfl⟩
  | succ s ih =>
    intro f v w h fl m d hs hf hl hwf hok h0 h1 h2 h3
    rcases hf.shape with ⟨a1, cap, rfl, hfn⟩ | ⟨g, o, cap, rfl, hq, hat⟩
    · subst hfn
      exact ih .nil _ w h fl m d (by simp [Fo.sz]) hf hl hwf hok h0 h1 h2 h3
    obtain ⟨n, hn⟩ : ∃ n, f.len = n := ⟨_, rfl⟩
    rw [hn] at hl ⊢
    have HN : Hid (f.len = n) := hn
    have HI := hidK ih
    have Hat := hidK hat
    have Hwf := hidK hwf
    have HSZ := hidK hs
    have HOK := hidK hok
    have hstart : Hid (RNL f h fl m 0 h m) := by unfold Hid RNL; cases f <;> rfl
    clear hn ih hat hwf hf hq hs hok
    go_enter Try.func23, Try.ntmps23
    go_wp2
    go_loop [1, 3, 11] (fun x y i => ∃ (k : Nat) (h' m' : Int), k ≤ n ∧ i = .int .i64 k ∧ x = .int .i64 h' ∧ y = .int .i64 m' ∧ fl ≤ h' ∧ h' ≤ m' ∧ m' ≤ 16 ∧ Hid (RNL f h fl m k h' m')) (fun _ _ i => n - (intOf i).toNat)
    case atStart => exact ⟨0, h, m, by omega, rfl, rfl, rfl, h1, h2, h3, hstart⟩
    case round =>
      obtain ⟨k, h', m', hk, rfl, rfl, rfl, hh1, hh2, hh3, HL⟩ := hrel
      by_cases hlt : k < n
      · obtain ⟨kk, nn, b, r, sv, e1, e2, e3, c0, c1, c2, hsv⟩ := Hat.out.at (i := k) (by rw [HN.out]; exact hlt)
        obtain ⟨hb1, hb2⟩ := Hwf.out.at e1
        have hbs := Fo.sz_blk e1
        have hbz : b.sz ≤ s := by have := HSZ.out; omega
        obtain ⟨hal, hbo⟩ := okF_at HOK.out e1
        have hkb := alone_bd hal
        have HND : Hid (nd f h fl m = nd (.cons kk nn b r) h' fl m') := by rw [← e1]; exact HL.out
        have HD := hidK e2
        have Ht := hidK (rtakes_any kk w hkb.1 hkb.2)
        have htd := tk_bd kk
        have hld := lv_bd kk
        have HE : Hid (tk kk = tk kk ∧ lv kk = lv kk) := ⟨rfl, rfl⟩
        obtain ⟨t, ht⟩ : ∃ t, tk kk = t := ⟨_, rfl⟩
        obtain ⟨u, hu⟩ : ∃ u, lv kk = u := ⟨_, rfl⟩
        rw [ht] at htd
        rw [hu] at hld
        rw [ht, hu] at Ht
        have HT := hidK ht
        have HU := hidK hu
        obtain ⟨a1, cap1, rfl⟩ := hsv.val
        have HSV := hidK hsv
        have HAL := hidK hal
        have HBO := hidK hbo
        have HKB := hidK hkb
        clear e1 e2 e3 hsv hal hbo ht hu HE hkb HL
        by_cases hx1 : h' - t < fl
        · have HC : Hid (RNR f h fl m (.returned (.tuple #[.int .i64 0, .int .i64 0, .bool false]))) := .inr ⟨by rw [HND.out]; exact nd_no1 (by rw [HT.out]; exact hx1), rfl⟩
          go_wp2_with (go_at_call 29; refine Ht.out.mono ?_; rintro e w' ⟨rfl, rfl⟩)
          go_ret3
          exact ⟨HC.out, rfl⟩
        have hx1' : fl ≤ h' - t := by omega
        have HX1 := hidK hx1'
        by_cases hx2 : 16 < h' - t + u
        · have HC : Hid (RNR f h fl m (.returned (.tuple #[.int .i64 0, .int .i64 0, .bool false]))) := .inr ⟨by rw [HND.out]; exact nd_no2 (by rw [HT.out, HU.out]; exact hx2), rfl⟩
          go_wp2_with (go_at_call 29; refine Ht.out.mono ?_; rintro e w' ⟨rfl, rfl⟩)
          all_goals
            go_ret3
            exact ⟨HC.out, rfl⟩
        have hx2' : h' - t + u ≤ 16 := by omega
        have HX2 := hidK hx2'
        have hMx : (m' < h' - t + u ∧ max m' (h' - t + u) = h' - t + u) ∨ (h' - t + u ≤ m' ∧ max m' (h' - t + u) = m') := by omega
        clear hx1 hx2
        cases hbk : hasB kk with
        | false =>
          have e28 : (kk == 28) = false := by unfold hasB at hbk; exact (Bool.or_eq_false_iff.1 hbk).1
          have e29 : (kk == 29) = false := by unfold hasB at hbk; exact (Bool.or_eq_false_iff.1 hbk).2
          have HL2 : Hid (RNL f h fl m (k + 1) (h' - t + u) (max m' (h' - t + u))) := by
            unfold Hid RNL
            rw [HND.out, HD.out, hasB_alone HAL.out hbk, nd_mk (m2 := max m' (h' - t + u)) (by rw [HT.out]; exact HX1.out) (by rw [HT.out, HU.out]; exact HX2.out) (by rw [HT.out, HU.out]; rfl), HT.out, HU.out]
          clear hbk
          rcases hMx with ⟨hM, hMe⟩ | ⟨hM, hMe⟩
          all_goals
            rw [hMe] at HL2
            clear hMe
            go_wp2_with (go_at_call 29; refine Ht.out.mono ?_; rintro e w' ⟨rfl, rfl⟩)
            go_round
            case rel => exact ⟨k + 1, _, _, by omega, by go_num, rfl, rfl, by omega, by omega, by omega, HL2⟩
            case measure => simp [intOf]; omega
        | true =>
          have hk2 : kk = 28 ∨ kk = 29 := by unfold hasB at hbk; simpa using hbk
          have hIH := HI.out b _ w (h' - t + u) (h' - t + u) (max m' (h' - t + u)) (d + 1) hbz HSV.out hb1 hb2 (HBO.out hbk) (by omega) (Int.le_refl _) (by omega) (by omega)
          have hno : ∀ x, nd b (h' - t + u) (h' - t + u) (max m' (h' - t + u)) = x → (∀ p, x = some (h' - t + u, p) → nd f h fl m = nd (f.drop (k + 1)) (h' - t + u) fl p) ∧ ((∀ p, x ≠ some (h' - t + u, p)) → nd f h fl m = none) := by
            intro x hx
            refine ⟨fun p hp => ?_, fun hp => ?_⟩
            · rw [hp] at hx
              rw [HND.out, HD.out, nd_mk (m2 := p) (by rw [HT.out]; exact HX1.out) (by rw [HT.out, HU.out]; exact HX2.out) (by rw [HT.out, HU.out]; exact hx), HT.out, HU.out]
            · rw [HND.out]
              refine nd_no3 fun p hq => ?_
              rw [HT.out, HU.out, hx] at hq
              exact hp p hq
          have hbd := fun l p hn => nd_bd b (h' - t + u) (h' - t + u) (max m' (h' - t + u)) l p hn (Int.le_refl _) (by omega) (by omega)
          have HNO := hidK hno
          have HBD := hidK hbd
          have HC0 := hidK hIH
          clear hno hbd hIH hbk
          rcases hk2 with rfl | rfl <;> rcases hMx with ⟨hM, hMe⟩ | ⟨hM, hMe⟩
          all_goals
            rw [hMe] at HNO HBD HC0
            clear hMe
            go_wp2_with (first | (go_at_call 29; refine Ht.out.mono ?_; rintro e w' ⟨rfl, rfl⟩) | (go_at_call 23; refine HC0.out.mono ?_))
            rintro e w' ⟨hr, rfl⟩
            rcases hr with ⟨l, p, hn, rfl⟩ | ⟨hn, rfl⟩
            · have hb := HBD.out l p hn
              by_cases hle : l = h' - t + u
              · subst hle
                have HL2 : Hid (RNL f h fl m (k + 1) (h' - t + u) p) := (HNO.out _ hn).1 p rfl
                clear hn
                go_wp2
                go_round
                case rel => exact ⟨k + 1, _, _, by omega, by go_num, rfl, rfl, by omega, by omega, by omega, HL2⟩
                case measure => simp [intOf]; omega
              · have HC : Hid (RNR f h fl m (.returned (.tuple #[.int .i64 0, .int .i64 0, .bool false]))) := .inr ⟨(HNO.out _ hn).2 (fun q hq => hle (by injection hq with hq; injection hq)), rfl⟩
                have hne : (l == h' - t + u) = false := beq_eq_false_iff_ne.2 hle
                clear hn hle
                go_wp2
                go_ret3
                exact ⟨HC.out, rfl⟩
            · have HC : Hid (RNR f h fl m (.returned (.tuple #[.int .i64 0, .int .i64 0, .bool false]))) := .inr ⟨(HNO.out _ hn).2 (fun q hq => by cases hq), rfl⟩
              clear hn
              go_wp2
              go_ret3
              exact ⟨HC.out, rfl⟩
      · have hlt' : n ≤ k := by omega
        have HC : Hid (RNR f h fl m (.returned (.tuple #[.int .i64 h', .int .i64 m', .bool true]))) := by
          have := HL.out
          unfold RNL at this
          rw [Fo.drop_all _ _ (by rw [HN.out]; exact hlt')] at this
          exact .inl ⟨h', m', this, rfl⟩
        go_wp2
        go_ret3
        exact ⟨HC.out, rfl⟩
theorem rneed_any (f : Fo) (v : Value) (w : World) (h : FS QA w v f) (hl : f.len ≤ 3518437208780) (hwf : WfB f) :
    Calls Try.prog 15 #[v] w fun e w' => NeedR f e ∧ Below w.heap.size w w' := by
  have Hc := hidK (rops_any f v w h hl hwf)
  have Hf := hidK h
  have Hwf := hidK hwf
  obtain ⟨a, cap, rfl⟩ := h.val
  clear h hwf
  go_enter Try.func15, Try.ntmps15
  go_wp2_with (go_at_call 9; refine Hc.out.mono ?_)
  rintro e w1 ⟨hr, hb⟩
  have HB := hidK hb
  rcases hr with ⟨hm, rfl⟩ | ⟨hm, z, rfl⟩
  · have HM := hidK hm
    have HN := hidK (rneed_sz f.sz f _ w1 0 0 0 0 (Nat.le_refl _) (Hf.out.below hb) hl Hwf.out hm.1 (by omega) (by omega) (by omega) (by omega))
    clear hm hb
    go_wp2_with (go_at_call 23; refine HN.out.mono ?_)
    rintro e w' ⟨hr, rfl⟩
    rcases hr with ⟨l, p, hn, rfl⟩ | ⟨hn, rfl⟩
    · have HR := hidK (needR_mk (needOut_some HM.out hn))
      clear hn
      go_wp2
      go_ret3
      exact ⟨HR.out, HB.out⟩
    · have HR := hidK (needR_mk (needOut_none HM.out hn))
      clear hn
      go_wp2
      go_ret3
      exact ⟨HR.out, HB.out⟩
  · have HR := hidK (needR_mk (needOut_no hm))
    clear hm hb
    go_wp2
    go_ret3
    exact ⟨HR.out, HB.out⟩
theorem rcheck_any (f : Fo) (v : Value) (w : World) (h : FS QA w v f) (hl : f.len ≤ 3518437208780) (hwf : WfB f) :
    Calls Try.prog 17 #[v] w fun e w' => e = .returned (.int .i64 (cE f)) ∧ Below w.heap.size w w' := by
  have Hc := hidK (rneed_any f v w h hl hwf)
  obtain ⟨a, cap, rfl⟩ := h.val
  unfold cE
  unfold NeedR at Hc
  have hcs := nE_cases f
  generalize nE f = c at Hc hcs ⊢
  generalize nL f = l at Hc hcs ⊢
  generalize nP f = p at Hc hcs ⊢
  clear h hwf
  rcases hcs with ⟨rfl, h1, h2, h3, _⟩ | ⟨rfl, rfl, rfl, _⟩ | ⟨rfl, rfl, rfl, _⟩
  · by_cases h0 : 0 < l
    · rw [if_pos ⟨rfl, h0⟩]
      go_enter Try.func17, Try.ntmps17
      go_wp2_with (go_at_call 15; refine Hc.out.mono ?_; rintro e w1 ⟨rfl, hb⟩)
      go_ret
      exact ⟨rfl, hb⟩
    · rw [if_neg (fun h => h0 h.2)]
      go_enter Try.func17, Try.ntmps17
      go_wp2_with (go_at_call 15; refine Hc.out.mono ?_; rintro e w1 ⟨rfl, hb⟩)
      go_ret
      exact ⟨rfl, hb⟩
  all_goals
    rw [if_neg (fun h => by have := h.2; omega)]
    go_enter Try.func17, Try.ntmps17
    go_wp2_with (go_at_call 15; refine Hc.out.mono ?_; rintro e w1 ⟨rfl, hb⟩)
    go_ret
    exact ⟨rfl, hb⟩
end Go.Proofs.Ytjegnffhegiajaa
