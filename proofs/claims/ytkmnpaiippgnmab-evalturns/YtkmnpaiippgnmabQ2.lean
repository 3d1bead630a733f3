/- Texts laid together: LCount, LCountF, LChk, LProg, Light, SStr, LOpen, LHeavy, LQB, LOkAt. -/
import Derived.Test.YtkmnpaiippgnmabQ1
import Derived.SizedLaws
import Derived.Test.YtkmnpaiippgnmabRows
import Derived.WalkKit
import Derived.ProofKit
import Derived.OpenShut
import Derived.ShutString
import Derived.ChangeOld
import Derived.Below
import Derived.SliceStrings
import Derived.LaidMore
import Derived.WalkSmall
import Derived.Stop.Joined
import Derived.Deep.Slices
import Derived.OwnWalk
import Derived.Deep.QuietTactic
import Derived.BigQuiet
import Derived.Maps.AppendAt
import Derived.ChangeArms
/- Count: how many ops there are, and whether they may be. -/
namespace Go.Proofs.Ytkmnpaiippgnmab
open Go.RowKit
set_option linter.unusedVariables false
set_option maxRecDepth 100000

theorem hidN {p : Prop} (h : p) : Hid p := h
def okO (k n : Int) (b : Fo) (d : Nat) : Bool := alone k n b && (!hasB k || okF b (d + 1))
def allO : Fo → Nat → Bool
  | .nil, _ => true
  | .cons k n b r, d => okO k n b d && allO r d
def bt : Fo → Nat
  | .nil => 0
  | .cons k _ b r => (if hasB k then tot b else 0) + bt r
theorem okF_all (f : Fo) (d : Nat) : okF f d = (decide (d ≤ 6) && allO f d) := by
  induction f with
  | nil => simp [okF, allO]
  | cons k n b r _ ih =>
    simp only [okF, allO, okO, ih]
    cases decide (d ≤ 6) <;> cases alone k n b <;> cases (!hasB k || okF b (d + 1)) <;> rfl
theorem tot_bt (f : Fo) : tot f = f.len + bt f := by
  induction f with
  | nil => rfl
  | cons k n b r _ ih => simp only [tot, Fo.len, bt, ih]; omega
theorem allO_app (f g : Fo) (d : Nat) : allO (f.app g) d = (allO f d && allO g d) := by
  induction f with
  | nil => simp [Fo.app, allO]
  | cons k n b r _ ih => simp only [Fo.app, allO, ih, Bool.and_assoc]
theorem bt_app (f g : Fo) : bt (f.app g) = bt f + bt g := by
  induction f with
  | nil => simp [Fo.app, bt]
  | cons k n b r _ ih => simp only [Fo.app, bt, ih]; omega
/-- Where one op may not be, or its block makes too many. -/
theorem ok_not {f b r : Fo} {i d a : Nat} {k n : Int} (h : f.drop i = .cons k n b r) (hn : okO k n b d = false ∨ 128 < a + f.len + bt (f.take i) + (if hasB k then tot b else 0)) : ¬ (okF f d = true ∧ a + tot f ≤ 128) := by
  rintro ⟨h1, h2⟩
  have e := Fo.take_drop i f
  rw [h] at e
  rcases hn with hn | hn
  · rw [okF_all, ← e, allO_app] at h1
    simp [allO, hn] at h1
  · have hb : bt f = bt (f.take i) + ((if hasB k then tot b else 0) + bt r) := by rw [show bt f = bt ((f.take i).app (.cons k n b r)) by rw [e], bt_app]; rfl
    rw [tot_bt, hb] at h2
    omega

set_option maxHeartbeats 800000 in
theorem alone_any (k n : Int) (a : Option Addr) (b : Fo) (cap : Nat) (w : World) : Calls Try.prog 58 #[.agg #[.int .i64 k, .int .i64 n, .slice a b.len cap]] w fun e w' => e = .returned (.bool (alone k n b)) ∧ Below w.heap.size w w' := by
  have Hh := hidN (fun W => hasB_any k W)
  have hB := (Below.refl w.heap.size w).alloc (Nat.le_refl _) (.cells #[.int .i64 k, .int .i64 n, .slice a b.len cap] 33)
  unfold alone
  have e5 : ((b.len : Int) == 0) = (b.len == 0) := by
    by_cases h : b.len = 0
    · simp [h]
    · rw [beq_eq_false_iff_ne.2 (by omega), beq_eq_false_iff_ne.2 h]
  cases h1 : decide (1 ≤ k) with
  | false =>
    go_enter Try.func58, Try.ntmps58
    go_wp2
    go_ret
    exact ⟨rfl, hB⟩
  | true =>
    cases h2 : decide (k ≤ 30) with
    | false =>
      go_enter Try.func58, Try.ntmps58
      go_wp2
      go_ret
      exact ⟨rfl, hB⟩
    | true =>
      cases h3 : n == 0 with
      | true =>
        cases h5 : b.len == 0 with
        | true =>
          go_enter Try.func58, Try.ntmps58
          go_wp2
          go_ret
          exact ⟨rfl, hB⟩
        | false =>
          go_enter Try.func58, Try.ntmps58
          go_wp2_with (go_at_call 59; refine (Hh.out _).mono ?_; rintro e w' ⟨rfl, rfl⟩)
          go_ret
          exact ⟨rfl, hB⟩
      | false =>
        cases h4 : k == 1 with
        | false =>
          go_enter Try.func58, Try.ntmps58
          go_wp2
          go_ret
          exact ⟨rfl, hB⟩
        | true =>
          cases h5 : b.len == 0 with
          | true =>
            go_enter Try.func58, Try.ntmps58
            go_wp2
            go_ret
            exact ⟨rfl, hB⟩
          | false =>
            go_enter Try.func58, Try.ntmps58
            go_wp2_with (go_at_call 59; refine (Hh.out _).mono ?_; rintro e w' ⟨rfl, rfl⟩)
            go_ret
            exact ⟨rfl, hB⟩
end Go.Proofs.Ytkmnpaiippgnmab
/- Count: how many ops there are, and whether they may be: count, Count, Check. -/
namespace Go.Proofs.Ytkmnpaiippgnmab
open Go.RowKit
set_option linter.unusedVariables false
set_option maxRecDepth 100000

/-- What count tells. -/
def CR (f : Fo) (d a : Nat) (e : Ending) : Prop := ((okF f d = true ∧ a + tot f ≤ 128) ∧ e = .returned (.tuple #[.int .i64 ((a + tot f : Nat) : Int), .bool true])) ∨ (¬ (okF f d = true ∧ a + tot f ≤ 128) ∧ e = .returned (.tuple #[.int .i64 0, .bool false]))

set_option maxHeartbeats 1600000 in
theorem count_sz : ∀ (s : Nat) (f : Fo) (v : Value) (w : World) (d a : Nat), f.sz ≤ s → FS QA w v f → f.len ≤ 3518437208780 → WfB f → d ≤ 7 → a ≤ 128 →
    Calls Try.prog 54 #[v, .int .i64 d, .int .i64 a] w fun e w' => CR f d a e ∧ Below w.heap.size w w' := by
  intro s
  induction s with
  | zero =>
    intro f v w d a hs h hl hwf hd ha
    obtain rfl : f = .nil := by cases f with
      | nil => rfl
      | cons k n b r => simp [Fo.sz] at hs
    obtain ⟨a1, cap, rfl⟩ := h.val
    simp only [Fo.len]
    have hai : (a : Int) ≤ 128 := by omega
    by_cases hd6 : d ≤ 6
    · have hdi : (d : Int) ≤ 6 := by omega
      have HC : Hid (CR .nil d a (.returned (.tuple #[.int .i64 (a : Int), .bool true]))) := .inl ⟨⟨by simp [okF, hd6], by simpa [tot] using ha⟩, by simp [tot]⟩
      clear hs hl hwf h
      go_enter Try.func54, Try.ntmps54
      go_wp2
      go_loop [6, 7, 22] (fun n _ i => n = .int .i64 a ∧ i = .int .i64 0) (fun _ _ _ => 0)
      case atStart => exact ⟨rfl, rfl⟩
      case round =>
        obtain ⟨rfl, rfl⟩ := hrel
        go_wp2
        go_ret2
        exact ⟨HC.out, Below.refl _ _⟩
    · have hdi : (6 : Int) < d := by omega
      have HC : Hid (CR .nil d a (.returned (.tuple #[.int .i64 0, .bool false]))) := .inr ⟨fun hc => by simp [okF] at hc; omega, rfl⟩
      clear hs hl hwf h
      go_enter Try.func54, Try.ntmps54
      go_wp2
      go_ret2
      exact ⟨HC.out, Below.refl _ _⟩
  | succ s ih =>
    intro f v w d a hs h hl hwf hd ha
    rcases h.shape with ⟨a1, cap, rfl, hf⟩ | ⟨g, o, cap, rfl, hq, hat⟩
    · subst hf
      exact ih .nil _ w d a (by simp [Fo.sz]) h hl hwf hd ha
    have hai : (a : Int) ≤ 128 := by omega
    obtain ⟨n, hn⟩ : ∃ n, f.len = n := ⟨_, rfl⟩
    rw [hn] at hl ⊢
    have HN : Hid (f.len = n) := hn
    have HI := hidN ih
    have hgw : g < w.heap.size := hq
    have Hat := hidN hat
    have Hwf := hidN hwf
    by_cases hgo : a + n ≤ 128 ∧ d ≤ 6
    · obtain ⟨hn1, hd6⟩ := hgo
      have hdi : (d : Int) ≤ 6 := by omega
      have hni : (a : Int) + (n : Int) ≤ 128 := by omega
      clear hn ih h hat hwf
      go_enter Try.func54, Try.ntmps54
      go_wp2
      go_loopw [6, 7, 22] (fun x _ i wr => ∃ (k z : Nat), k ≤ n ∧ i = .int .i64 k ∧ x = .int .i64 z ∧ z ≤ 128 ∧ Hid (z = a + n + bt (f.take k) ∧ allO (f.take k) d = true) ∧ Below w.heap.size w wr) (fun _ _ i _ => n - (intOf i).toNat)
      case atStart => exact ⟨0, a + n, by omega, rfl, by go_num, by omega, ⟨by cases f <;> rfl, by cases f <;> rfl⟩, Below.refl _ _⟩
      case round =>
        obtain ⟨k, z, hk, rfl, rfl, hz, HZ, hbel⟩ := hrel
        have hsz := hbel.size
        by_cases hlt : k < n
        · have hat' : FoAt QA wr f g o := Hat.out.move (fun b o hq => ⟨hbel.block b hq, Nat.lt_of_lt_of_le hq hsz⟩) (hbel.block g hgw)
          obtain ⟨kk, nn, b, r, sv, e1, e2, e3, c0, c1, c2, hsv⟩ := hat'.at (i := k) (by rw [HN.out]; exact hlt)
          obtain ⟨hb1, hb2⟩ := Hwf.out.at e1
          have hbs := Fo.sz_blk e1
          have HT := hidN e3
          have HD := hidN e1
          have Hs : Hid (FS QA wr sv b) := hsv
          obtain ⟨a1, cap1, rfl⟩ := hsv.val
          have hgr : g < wr.heap.size := by omega
          have hB1 := (Below.refl wr.heap.size wr).alloc (Nat.le_refl _) (.cells #[.int .i64 kk, .int .i64 nn, .slice a1 b.len cap1] 33)
          have HB1 := hidN hB1
          have Ha := hidN (alone_any kk nn a1 b cap1 (wr.alloc (.cells #[.int .i64 kk, .int .i64 nn, .slice a1 b.len cap1] 33)))
          clear e1 e2 e3 hat' hsv hB1
          cases hal : alone kk nn b with
          | false =>
            rw [hal] at Ha
            have HC : Hid (CR f d a (.returned (.tuple #[.int .i64 0, .bool false]))) := .inr ⟨ok_not HD.out (.inl (by simp [okO, hal])), rfl⟩
            clear hal
            go_wp2_with (go_at_call 58; refine Ha.out.mono ?_; rintro e w1 ⟨rfl, hb1⟩)
            go_ret2
            exact ⟨HC.out, (hbel.trans (HB1.out.mono hsz)).trans (hb1.mono (by simp; omega))⟩
          | true =>
            rw [hal] at Ha
            have HAL := hidN hal
            clear hal
            have Hh := hidN (fun W => hasB_any kk W)
            cases hbk : hasB kk with
            | false =>
              rw [hbk] at Hh
              have HZ2 : Hid (z = a + n + bt (f.take (k + 1)) ∧ allO (f.take (k + 1)) d = true) := by
                have := HZ.out
                unfold Hid
                rw [HT.out, bt_app, allO_app]
                simp [bt, allO, okO, HAL.out, hbk, this.2]
                exact this.1
              clear hbk
              go_wp2_with fail
              refine Ha.out.mono ?_
              rintro e w1 ⟨rfl, hb1⟩
              have hbox := (BlkO.new wr kk nn (.slice a1 b.len cap1)).step hb1
              obtain ⟨d0, d1, d2⟩ := hbox.cells
              have HB2 := hidN ((hbel.trans (HB1.out.mono hsz)).trans (hb1.mono (by simp; omega)))
              clear hbox hb1 c0 c1 c2
              go_wp2_with (go_at_call 59; refine (Hh.out _).mono ?_; rintro e w' ⟨rfl, rfl⟩)
              go_roundw
              case rel => exact ⟨k + 1, z, by omega, by go_num, rfl, hz, HZ2, HB2.out⟩
              case measure => simp [intOf]; omega
            | true =>
              rw [hbk] at Hh
              have HBK := hidN hbk
              clear hbk
              go_wp2_with fail
              refine Ha.out.mono ?_
              rintro e w1 ⟨rfl, hb1⟩
              have hbox := (BlkO.new wr kk nn (.slice a1 b.len cap1)).step hb1
              obtain ⟨d0, d1, d2⟩ := hbox.cells
              have hbw1 := (hbel.trans (HB1.out.mono hsz)).trans (hb1.mono (by simp; omega))
              have hs1 := hbw1.size
              have hfs1 : FS QA w1 (.slice a1 b.len cap1) b := (Hs.out.below HB1.out).below hb1
              have hc := HI.out b _ w1 (d + 1) z (by omega) hfs1 (by omega) hb2 (by omega) hz
              rw [show ((d + 1 : Nat) : Int) = (d : Int) + 1 by omega] at hc
              have Hc := hidN hc
              have HB2 := hidN hbw1
              clear hbox hb1 c0 c1 c2 hbw1 hfs1 hc
              have hdi2 : (0 : Int) ≤ d := by omega
              go_wp2_with (first | (go_at_call 59; refine (Hh.out _).mono ?_; rintro e w' ⟨rfl, rfl⟩))
              refine Hc.out.mono ?_
              rintro e w2 ⟨hcr, hb2'⟩
              have HB3 := hidN (HB2.out.trans (hb2'.mono hs1))
              rcases hcr with ⟨⟨hk1, hk2⟩, rfl⟩ | ⟨hk1, rfl⟩
              · have HZ2 : Hid (z + tot b = a + n + bt (f.take (k + 1)) ∧ allO (f.take (k + 1)) d = true) := by
                  have := HZ.out
                  unfold Hid
                  rw [HT.out, bt_app, allO_app]
                  simp [bt, allO, okO, HAL.out, HBK.out, this.2, hk1]
                  omega
                clear hk1 hb2'
                go_wp2
                go_roundw
                case rel => exact ⟨k + 1, z + tot b, by omega, by go_num, rfl, hk2, HZ2, HB3.out⟩
                case measure => simp [intOf]; omega
              · have HC : Hid (CR f d a (.returned (.tuple #[.int .i64 0, .bool false]))) := .inr ⟨ok_not HD.out (by
                  have := HZ.out
                  have hnn := HN.out
                  by_cases hof : okF b (d + 1) = true
                  · right
                    have : ¬ z + tot b ≤ 128 := fun h => hk1 ⟨hof, h⟩
                    rw [HBK.out]
                    simp
                    omega
                  · left
                    simp [okO, HBK.out, hof]), rfl⟩
                clear hk1 hb2'
                go_wp2
                go_ret2
                exact ⟨HC.out, HB3.out⟩
        · have hke : k = n := by omega
          have HC : Hid (CR f d a (.returned (.tuple #[.int .i64 (z : Int), .bool true]))) := by
            have := HZ.out
            have hnn := HN.out
            rw [hke, ← hnn, Fo.take_all _ f (Nat.le_refl _)] at this
            have ht := tot_bt f
            refine .inl ⟨⟨by rw [okF_all, this.2]; simp [hd6], by omega⟩, ?_⟩
            have : z = a + tot f := by omega
            rw [this]
          have hlt' : n ≤ k := by omega
          clear hke
          go_wp2
          go_ret2
          exact ⟨HC.out, hbel⟩
    · have HC : Hid (CR f d a (.returned (.tuple #[.int .i64 0, .bool false]))) := .inr ⟨fun hc => hgo (by
        have h1 := okF_deep hc.1
        have h2 := tot_len f
        rw [hn] at h2
        omega), rfl⟩
      clear hn ih h hat hwf
      by_cases hn1 : a + n ≤ 128
      · have hni : (a : Int) + (n : Int) ≤ 128 := by omega
        have hdi : (6 : Int) < d := by omega
        clear hgo
        go_enter Try.func54, Try.ntmps54
        go_wp2
        go_ret2
        exact ⟨HC.out, Below.refl _ _⟩
      · have hni : (128 : Int) < (a : Int) + (n : Int) := by omega
        clear hgo
        go_enter Try.func54, Try.ntmps54
        go_wp2
        go_ret2
        exact ⟨HC.out, Below.refl _ _⟩
end Go.Proofs.Ytkmnpaiippgnmab
/- lang.Count and lang.Check. -/
namespace Go.Proofs.Ytkmnpaiippgnmab
open Go.RowKit
set_option linter.unusedVariables false
set_option maxRecDepth 100000

/-- Ops that may be. -/
def May (f : Fo) : Prop := okF f 0 = true ∧ tot f ≤ 128
/-- What Count tells. -/
def CntR (f : Fo) (e : Ending) : Prop := (May f ∧ e = .returned (.tuple #[.int .i64 (tot f : Int), .int .i64 0])) ∨ (¬ May f ∧ e = .returned (.tuple #[.int .i64 0, .int .i64 1]))
theorem cnt_any (f : Fo) (v : Value) (w : World) (h : FS QA w v f) (hl : f.len ≤ 3518437208780) (hwf : WfB f) :
    Calls Try.prog 45 #[v] w fun e w' => CntR f e ∧ Below w.heap.size w w' := by
  have Hc := hidN (count_sz f.sz f v w 0 0 (Nat.le_refl _) h hl hwf (by omega) (by omega))
  rw [show ((0 : Nat) : Int) = 0 from rfl] at Hc
  obtain ⟨a, cap, rfl⟩ := h.val
  clear h hl hwf
  go_enter Try.func45, Try.ntmps45
  go_wp2_with (go_at_call 54; refine Hc.out.mono ?_)
  rintro e w1 ⟨hcr, hb⟩
  rcases hcr with ⟨hm, rfl⟩ | ⟨hm, rfl⟩
  · rw [Nat.zero_add] at hm ⊢
    have HM := hidN hm
    clear hm
    go_wp2
    go_ret2
    exact ⟨.inl ⟨HM.out, rfl⟩, hb⟩
  · rw [Nat.zero_add] at hm
    have HM := hidN hm
    clear hm
    go_wp2
    go_ret2
    exact ⟨.inr ⟨HM.out, rfl⟩, hb⟩
/-- What Check tells. -/
def ChkR (f : Fo) (e : Ending) : Prop := (May f ∧ e = .returned (.int .i64 0)) ∨ (¬ May f ∧ e = .returned (.int .i64 1))
theorem chk_any (f : Fo) (v : Value) (w : World) (h : FS QA w v f) (hl : f.len ≤ 3518437208780) (hwf : WfB f) :
    Calls Try.prog 31 #[v] w fun e w' => ChkR f e ∧ Below w.heap.size w w' := by
  have Hc := hidN (cnt_any f v w h hl hwf)
  obtain ⟨a, cap, rfl⟩ := h.val
  clear h hl hwf
  go_enter Try.func31, Try.ntmps31
  go_wp2_with (go_at_call 45; refine Hc.out.mono ?_)
  rintro e w1 ⟨hcr, hb⟩
  rcases hcr with ⟨hm, rfl⟩ | ⟨hm, rfl⟩
  · have HM := hidN hm
    clear hm
    go_wp2
    go_ret
    exact ⟨.inl ⟨HM.out, rfl⟩, hb⟩
  · have HM := hidN hm
    clear hm
    go_wp2
    go_ret
    exact ⟨.inr ⟨HM.out, rfl⟩, hb⟩
end Go.Proofs.Ytkmnpaiippgnmab
/- Programs that a text is. -/
namespace Go.Proofs.Ytkmnpaiippgnmab
open Go.RowKit
set_option linter.unusedVariables false
set_option maxRecDepth 100000

theorem Drawn.low {w wr : World} (h : Drawn w wr) : Below w.heap.size w wr := h.below _

theorem prog_ok {s : ByteArray} {g : Fo} {ws : List (List UInt8)} {m : Nat} (h : Prog s (.ok g ws m)) : May g ∧ WfN g ∧ g.len ≤ 3518437208780 ∧ WfB g := by
  unfold Prog at h
  split at h
  · simp at h
  · obtain ⟨fu, h⟩ := h
    obtain ⟨h1, h2, h3, h4, _⟩ := read_ok fu 0 _ 0 g ws m h (fun x hx => (splitG_words _ [] (fun c hc => by cases hc) x hx).1) (by omega) (by omega)
    obtain ⟨h5, h6⟩ := WfB.of_tot g 0 h1 (by omega)
    exact ⟨⟨h1, by omega⟩, h2, by omega, h6⟩
end Go.Proofs.Ytkmnpaiippgnmab
/- What the reading weighs: each string and each slice that came in takes at most so many bytes. -/
namespace Go.Proofs.Ytkmnpaiippgnmab
set_option linter.unusedVariables false
set_option maxRecDepth 100000
variable {H : Type} {P : Program}

/-- Nothing in d takes more bytes than the reach. -/
def Light (P : Program) (t : TypeId) (d : DataW H) : Prop := ∀ n ∈ d.weights P t, n ≤ reachBytes
theorem light_of_each {ts : List TypeId} {ds : List (DataW H)} (h : (DataW.weightsEach P ts ds).all (· ≤ reachBytes) = true) {j : Nat} {t : TypeId} {d : DataW H} (ht : ts[j]? = some t) (hd : ds[j]? = some d) : Light P t d := fun n hn => by
  have := List.all_eq_true.1 h n (DataW.weights_mem_each ht hd n hn)
  simpa using this
theorem light_agg {t : TypeId} {fs : Array Field} {ds : List (DataW H)} (ht : P.underlying t = some (.struct fs)) (h : Light P t (.agg ds)) {j : Nat} {u : TypeId} {d : DataW H} (hu : (fs.toList.map (·.type))[j]? = some u) (hd : ds[j]? = some d) : Light P u d := fun n hn =>
  h n (by simp only [DataW.weights, ht]; exact DataW.weights_mem_each hu hd n hn)
theorem weights_all {e : TypeId} : ∀ {ds : List (DataW H)} {d : DataW H}, d ∈ ds → ∀ n ∈ d.weights P e, n ∈ DataW.weightsAll P e ds
  | x :: ds, d, h, n, hn => by
    simp only [DataW.weightsAll, List.mem_append]
    rcases List.mem_cons.1 h with rfl | h
    · exact .inl hn
    · exact .inr (weights_all h n hn)
theorem light_slice {t e : TypeId} {elems spare : List (DataW H)} (ht : P.underlying t = some (.slice e)) (h : Light P t (.slice elems spare)) : (elems.length + spare.length) * P.bytesOf e ≤ reachBytes ∧ ∀ d ∈ elems, Light P e d :=
  ⟨h _ (by simp [DataW.weights, ht]), fun d hd n hn => h n (by simp only [DataW.weights, ht, List.mem_cons, List.mem_append]; exact .inr (.inl (weights_all hd n hn)))⟩
theorem light_string {t : TypeId} {s : ByteArray} (h : Light P t (.lit (.string s.data.toList) : DataW H)) : s.size ≤ reachBytes := h _ (by simp [DataW.weights])
end Go.Proofs.Ytkmnpaiippgnmab
/- A slice of strings: what its cells hold; one that came in, opened; TextWeight. -/
namespace Go.Proofs.Ytkmnpaiippgnmab
open Go.ChangeShapes Go.WideShapes Go.ChangeAt Go.RowKit
set_option linter.unusedVariables false
set_option maxRecDepth 100000

theorem own : ownKnob Try.prog.godebug = none := by kernel_rfl
theorem laidOut : laidOutB Try.prog = true := by kernel_rfl
theorem Try.cells9 : Try.prog.cellsOf 9 = 1 := by kernel_rfl

theorem cell_block {w : World} {b o : Nat} {v : Value} (h : w.cell? ⟨b, o, none⟩ = some v) : b < w.heap.size := by
  rcases Nat.lt_or_ge b w.heap.size with h1 | h1
  · exact h1
  · simp [World.cell?, h1] at h
theorem Try.bytes9 : Try.prog.bytesOf 9 = 16 := by kernel_rfl

/-- From (b, off) on the strings of l lie, one behind the other. -/
def StrsAt (w : World) (b off : Nat) (l : List ByteArray) : Prop := ∀ i x, l[i]? = some x → w.cell? ⟨b, off + i, none⟩ = some (.string x)
/-- The slice v holds the strings l. -/
def SS (w : World) (v : Value) (l : List ByteArray) : Prop :=
  ∃ a cap, v = .slice a l.length cap ∧ (l = [] ∨ ∃ b off, a = some ⟨b, off, none⟩ ∧ b < w.heap.size ∧ StrsAt w b off l)
/-- Each string is one that a machine can hold. -/
def WfS (l : List ByteArray) : Prop := ∀ x ∈ l, x.size ≤ 140737488351232

theorem StrsAt.below {w w' : World} {b off B : Nat} {l : List ByteArray} (h : StrsAt w b off l) (hb : Below B w w') (hlt : b < B) : StrsAt w' b off l := fun i x hx => (hb.cell (p := ⟨b, off + i, none⟩) hlt).trans (h i x hx)
theorem SS.below {w w' : World} {v : Value} {l : List ByteArray} (h : SS w v l) (hb : Below w.heap.size w w') : SS w' v l := by
  obtain ⟨a, cap, rfl, h⟩ := h
  refine ⟨a, cap, rfl, ?_⟩
  rcases h with h | ⟨b, off, rfl, hlt, h⟩
  · exact .inl h
  · exact .inr ⟨b, off, rfl, Nat.lt_of_lt_of_le hlt hb.size, h.below hb hlt⟩
theorem SS.shape {w : World} {v : Value} {l : List ByteArray} (h : SS w v l) : (∃ a cap, v = .slice a 0 cap ∧ l = []) ∨ ∃ b off cap, v = .slice (some ⟨b, off, none⟩) l.length cap ∧ b < w.heap.size ∧ StrsAt w b off l := by
  obtain ⟨a, cap, rfl, h⟩ := h
  rcases h with rfl | ⟨b, off, rfl, hb, hat⟩
  · exact .inl ⟨a, cap, rfl, rfl⟩
  · exact .inr ⟨b, off, cap, rfl, hb, hat⟩
abbrev flatS (l : List ByteArray) : List Value := l.map Value.string
theorem strsAt_of_block {w : World} {g : Nat} {cur : Array Value} {e : TypeId} {l : List ByteArray} (hb : w.heap[g]? = some (.cells cur e (0, 0))) (ht : cur.toList.take (l.length * 1) = flatS l) : StrsAt w g 0 l := by
  intro i x hx
  have hi : i < l.length := (List.getElem?_eq_some_iff.1 hx).1
  have h0 : (flatS l)[i]? = some (.string x) := by simp [flatS, hx]
  rw [← ht, List.getElem?_take_of_lt (by omega)] at h0
  simp only [World.cell?, hb, Nat.zero_add]
  simpa using h0
/-- v owns the strings l, in a block from base on. -/
abbrev OwnS (w : World) (base : Nat) (v : Value) (l : List ByteArray) : Prop := w.ownsRow base 9 1 v l.length (flatS l)
theorem SS.own {w : World} {base : Nat} {v : Value} {l : List ByteArray} (h : OwnS w base v l) : SS w v l := by
  rcases h.2 with ⟨rfl, h0⟩ | ⟨g, cap, cur, rfl, _, hb, _, _, _, ht⟩
  · have : l = [] := List.length_eq_zero_iff.1 h0
    subst this
    exact ⟨none, 0, rfl, .inl rfl⟩
  · exact ⟨_, cap, rfl, .inr ⟨g, 0, rfl, (Array.getElem?_eq_some_iff.1 hb).1, strsAt_of_block hb ht⟩⟩
theorem OwnS.below {w w' : World} {base : Nat} {v : Value} {l : List ByteArray} (h : OwnS w base v l) (hb : Below w.heap.size w w') : OwnS w' base v l := by
  refine ⟨h.1, ?_⟩
  rcases h.2 with ⟨h1, h2⟩ | ⟨g, cap, cur, h1, h2, h3, h4⟩
  · exact .inl ⟨h1, h2⟩
  · exact .inr ⟨g, cap, cur, h1, h2, by rw [hb.block g (Array.getElem?_eq_some_iff.1 h3).1]; exact h3, h4⟩
theorem OwnS.snoc {w : World} {base n : Nat} {v : Value} {l : List ByteArray} {x : ByteArray} (h : w.ownsRow base 9 1 v (n + 1) (flatS l ++ [.string x])) (hn : n = l.length) : OwnS w base v (l ++ [x]) := by
  subst hn
  have : flatS (l ++ [x]) = flatS l ++ [.string x] := by simp [flatS]
  unfold OwnS
  rw [this, List.length_append]
  exact h
theorem OwnS.shape {w : World} {base : Nat} {v : Value} {l : List ByteArray} (h : OwnS w base v l) : ∃ a cap, v = .slice a l.length cap := by
  obtain ⟨a, cap, h, _⟩ := SS.own h
  exact ⟨a, cap, h⟩
theorem own_rowS {w : World} {base n : Nat} {e : TypeId} {size : Nat} {v : Value} {xs : List Value} (h : w.ownsRow base e size v n xs) : ∀ k, v.ownBlock = some k → base ≤ k := fun k hk => (h.lt k hk).1

/-- A slice of strings that came in. -/
theorem open_strl {H : Type} {enc : TypeId × Value → H} {W : World} {a : Option Addr} {len cap : Nat} {d : DataW H} {p : List MemPlace} (h : DataW.Trod enc Try.prog W 0 (fun _ => true) true 22 (.slice a len cap) d p) (hlg : Light Try.prog 22 d) :
    ∃ l : List ByteArray, l.length = len ∧ l.length ≤ 8796093021952 ∧ WfS l ∧ SS W (.slice a len cap) l := by
  obtain ⟨fuel, hf⟩ := h
  rcases open_strings Try.underlying22 Try.underlying9 Try.cells9 hf with ⟨hcs, _⟩ | ⟨x, l, c, ss, hcs, _, hl, hm, hz, hx, hcell, hsz⟩
  · simp [Value.cells] at hcs
    obtain ⟨rfl, rfl, rfl⟩ := hcs
    exact ⟨[], rfl, by simp, fun x hx => by simp at hx, none, 0, rfl, .inl rfl⟩
  · simp [Value.cells] at hcs
    obtain ⟨rfl, rfl, rfl⟩ := hcs
    simp at hz
    injection hx with hd _
    subst hd
    obtain ⟨hlg1, hlg2⟩ := light_slice Try.underlying22 hlg
    rw [Try.bytes9] at hlg1
    unfold reachBytes at hlg1
    have hsl : (ss.take len).length = len := by simp; omega
    have hlen : (strs (H := H) (ss.take len)).length = len := by unfold strs; rw [List.length_map, hsl]
    refine ⟨ss.take len, hsl, by omega, ?_, _, cap, by rw [hsl], ?_⟩
    · intro y hy
      have hg := hlg2 (.lit (.string y.data.toList)) (by unfold strs; exact List.mem_map.2 ⟨y, hy, rfl⟩)
      have := light_string hg
      unfold reachBytes at this
      exact this
    · by_cases h0 : len = 0
      · left; subst h0; rfl
      right
      obtain ⟨b, off, spot⟩ := x
      have first := hcell 0 (by omega)
      have hspot : spot = none := by simpa [Addr.add] using World.cell?_spot first
      subst hspot
      refine ⟨b, off, rfl, ?_, ?_⟩
      · have := first
        rw [add_plain] at this
        exact cell_block this
      · intro i y hy
        have hi : i < len := by have := (List.getElem?_eq_some_iff.1 hy).1; omega
        rw [List.getElem?_take_of_lt hi] at hy
        have := hcell i (by omega)
        rw [add_plain] at this
        rw [this, List.getD_eq_getElem?_getD, hy]
        rfl

theorem getSome {α : Type} {l : List α} {i : Nat} (h : i < l.length) : ∃ x, l[i]? = some x := ⟨l[i], List.getElem?_eq_getElem h⟩

/-! ### TextWeight -/
def sizes (l : List ByteArray) : Nat := (l.map fun x => x.size).sum
theorem sizes_take (l : List ByteArray) (k : Nat) (x : ByteArray) (h : l[k]? = some x) : sizes (l.take (k + 1)) = sizes (l.take k) + x.size := by
  unfold sizes
  rw [List.take_add_one, h]
  simp
theorem sizes_mem {l : List ByteArray} {x : ByteArray} (h : x ∈ l) : x.size ≤ sizes l := by
  unfold sizes
  induction l with
  | nil => simp at h
  | cons a l ih =>
    simp only [List.map_cons, List.sum_cons]
    rcases List.mem_cons.1 h with rfl | h
    · omega
    · have := ih h; omega
theorem sizes_app (a b : List ByteArray) : sizes (a ++ b) = sizes a + sizes b := by simp [sizes]
theorem sizes_take_le (l : List ByteArray) (k : Nat) : sizes (l.take k) ≤ sizes l := by
  have : sizes l = sizes (l.take k) + sizes (l.drop k) := by rw [← sizes_app, List.take_append_drop]
  omega

set_option maxRecDepth 100000 in
theorem weight_any (v : Value) (l : List ByteArray) (w : World) (h : SS w v l) (hl : l.length ≤ 8796093021952) (hwf : WfS l) :
    Calls Try.prog 26 #[v] w fun e w' => (∃ n : Int, e = .returned (.int .i64 n) ∧ (n ≤ 9000 → l.length + sizes l ≤ 9000)) ∧ w' = w := by
  obtain ⟨a, cap, rfl, h⟩ := h
  rcases h with rfl | ⟨b, off, rfl, hb, hat⟩
  · go_enter Try.func26, Try.ntmps26
    go_wp2
    go_loop [3, 4] (fun n i => n = .int .i64 0 ∧ i = .int .i64 0) (fun _ _ => 0)
    case atStart => exact ⟨rfl, rfl⟩
    case round =>
      obtain ⟨rfl, rfl⟩ := hrel
      go_wp2
      go_ret
      exact ⟨⟨_, rfl, by simp [sizes]⟩, rfl⟩
  · obtain ⟨n, hn⟩ : ∃ n, l.length = n := ⟨_, rfl⟩
    rw [hn] at hl ⊢
    go_enter Try.func26, Try.ntmps26
    go_wp2
    go_loop [3, 4] (fun x i => ∃ (k : Nat) (z : Int), k ≤ n ∧ i = .int .i64 k ∧ x = .int .i64 z ∧ Hid (z = ((n + sizes (l.take k) : Nat) : Int)) ∧ 0 ≤ z ∧ z ≤ 150000000000000) (fun _ i => n - (intOf i).toNat)
    case atStart => exact ⟨0, n, by omega, rfl, rfl, rfl, by omega, by omega⟩
    case round =>
      obtain ⟨k, z, hk, rfl, rfl, HZ, hz0, hz⟩ := hrel
      by_cases hlt : k < n
      · obtain ⟨y, hy⟩ := getSome (l := l) (i := k) (by omega)
        have c0 := hat k y hy
        have hsz := hwf y (List.mem_of_getElem? hy)
        have hst : Hid (_ = _) := sizes_take l k y hy
        clear hat hy
        by_cases hx : z < 1048576
        · go_wp2
          go_round
          case rel => exact ⟨k + 1, _, by omega, by go_num, rfl, by have h1 := HZ.out; have h2 := hst.out; unfold Hid; omega, by omega, by omega⟩
          case measure => simp [intOf]; omega
        · have hx' : (1048576 : Int) ≤ z := by omega
          go_wp2
          go_ret
          exact ⟨⟨_, rfl, fun h => by omega⟩, rfl⟩
      · have hlt' : n ≤ k := by omega
        have e := HZ.out
        rw [List.take_of_length_le (by omega)] at e
        clear HZ
        go_wp2
        go_ret
        exact ⟨⟨_, rfl, fun h => by omega⟩, rfl⟩
end Go.Proofs.Ytkmnpaiippgnmab
/- The law's argument: texts and ops, opened. -/
namespace Go.Proofs.Ytkmnpaiippgnmab
open Go.ChangeShapes Go.WideShapes Go.ChangeAt Go.RowKit Go.Deep
set_option linter.unusedVariables false
set_option maxRecDepth 100000

theorem Try.cellsAsk : Try.prog.cellsOf 25 = 2 := by kernel_rfl
theorem Try.cellsOp : Try.prog.cellsOf 33 = 3 := by kernel_rfl
theorem Try.bytesOp : Try.prog.bytesOf 33 = 40 := by kernel_rfl
theorem Try.cells2 : Try.prog.cellsOf 2 = 1 := by kernel_rfl
theorem Try.cells3 : Try.prog.cellsOf 3 = 1 := by kernel_rfl
theorem Try.cellsOps : Try.prog.cellsOf 23 = 1 := by kernel_rfl
theorem Try.cellsStrs : Try.prog.cellsOf 22 = 1 := by kernel_rfl
theorem i64_of_wf {n : Int} (h : (Lit.int .i64 n).wf = true) : -9223372036854775808 ≤ n ∧ n ≤ 9223372036854775807 := by
  simpa [Lit.wf, IntKind.min, IntKind.max, IntKind.signed, IntKind.bits] using h
/-- Ops out of what stands at each place. -/
def mkFo (g : Nat → Int × Int × Fo) : Nat → Nat → Fo
  | _, 0 => .nil
  | i, n + 1 => .cons (g i).1 (g i).2.1 (g i).2.2 (mkFo g (i + 1) n)
theorem mkFo_len (g : Nat → Int × Int × Fo) : ∀ (n i : Nat), (mkFo g i n).len = n
  | 0, _ => rfl
  | n + 1, i => by simp [mkFo, Fo.len, mkFo_len g n (i + 1)]
/-- What is asked of the op at a place. -/
structure OpAt (W : World) (b o : Nat) (y : Int × Int × Fo) : Prop where
  k : -9223372036854775808 ≤ y.1 ∧ y.1 ≤ 9223372036854775807
  n : -9223372036854775808 ≤ y.2.1 ∧ y.2.1 ≤ 9223372036854775807
  c0 : W.cell? ⟨b, o, none⟩ = some (.int .i64 y.1)
  c1 : W.cell? ⟨b, o + 1, none⟩ = some (.int .i64 y.2.1)
  c2 : ∃ v, W.cell? ⟨b, o + 2, none⟩ = some v ∧ FS QA W v y.2.2
  len : y.2.2.len ≤ 3518437208780
  wb : WfB y.2.2
  wn : WfN y.2.2
theorem mkFo_at {W : World} {b off : Nat} (g : Nat → Int × Int × Fo) : ∀ (n i : Nat), (∀ j, j < n → OpAt W b (off + (i + j) * 3) (g (i + j))) → FoAt QA W (mkFo g i n) b (off + i * 3) ∧ WfB (mkFo g i n) ∧ WfN (mkFo g i n)
  | 0, i, _ => ⟨trivial, trivial, trivial⟩
  | n + 1, i, h => by
    have h0 := h 0 (by omega)
    rw [Nat.add_zero] at h0
    obtain ⟨r1, r2, r3⟩ := mkFo_at g n (i + 1) (fun j hj => by have := h (j + 1) (by omega); rw [show i + 1 + j = i + (j + 1) by omega]; exact this)
    obtain ⟨v, hv, a, cap, e, hb⟩ := h0.c2
    refine ⟨⟨h0.c0, h0.c1, ⟨a, cap, by rw [← e]; exact hv, hb⟩, ?_⟩, ⟨h0.len, h0.wb, r2⟩, ⟨h0.k, h0.n, h0.wn, r3⟩⟩
    rw [show off + i * 3 + 3 = off + (i + 1) * 3 by omega]
    exact r1

/-- A slice's room. -/
def Capd (v : Value) : Prop := ∃ a n c, v = .slice a n c ∧ n ≤ c ∧ c ≤ 9223372036854775807
/-- A slice of ops that came in. -/
theorem open_ops {H : Type} {enc : TypeId × Value → H} {W : World} : ∀ (fuel : Nat) (v : Value) (d : DataW H × List MemPlace), DataW.trod enc Try.prog W 0 (fun _ => true) true fuel 23 [v] = some d → Light Try.prog 23 d.1 →
    ∃ f : Fo, FS QA W v f ∧ f.len ≤ 3518437208780 ∧ WfB f ∧ WfN f ∧ Capd v := by
  intro fuel
  induction fuel using Nat.strongRecOn with
  | ind fuel ih =>
    intro v d hf hlg
    rcases DataW.trod_slice Try.underlying23 hf with ⟨hcs, _⟩ | ⟨x, len, cap, elems, rest, n, hfu, hcs, hx, _, hl, hm, hel, hall, _, _⟩
    · simp at hcs
      subst hcs
      exact ⟨.nil, FS.nil _, by simp [Fo.len], trivial, trivial, _, _, _, rfl, Nat.le_refl _, by omega⟩
    · simp at hcs
      subst hcs
      subst hx
      obtain ⟨hlg1, hlg2⟩ := light_slice Try.underlying23 hlg
      rw [Try.bytesOp] at hlg1
      simp only [List.length_map] at hlg1
      unfold reachBytes at hlg1
      by_cases h0 : len = 0
      · subst h0
        exact ⟨.nil, ⟨_, cap, rfl, .inl rfl⟩, by simp [Fo.len], trivial, trivial, _, _, _, rfl, hl, by unfold maxLen at hm; omega⟩
      obtain ⟨b, off, spot⟩ := x
      rw [Try.cellsOp] at hall
      have hget : ∀ i, i < len → ∃ cs y, W.cells? 0 ((⟨b, off, spot⟩ : Addr).add (i * 3)) 3 = some cs ∧ DataW.trod enc Try.prog W 0 (fun _ => true) true n 33 cs = some y ∧ elems[i]? = some y := by
        intro i hi
        have := hall i hi
        obtain ⟨y, hy⟩ : ∃ y, elems[i]? = some y := ⟨_, List.getElem?_eq_getElem (by omega)⟩
        rw [hy] at this
        cases hc : W.cells? 0 ((⟨b, off, spot⟩ : Addr).add (i * 3)) 3 with
        | none => rw [hc] at this; simp at this
        | some cs => rw [hc] at this; exact ⟨cs, y, rfl, by simpa using this, hy⟩
      obtain ⟨cs, _, hc, _, _⟩ := hget 0 (by omega)
      obtain ⟨_, hcl, hcell⟩ := World.cells?_some hc
      have hspot : spot = none := by
        have e := hcell 0 (by omega)
        match cs, hcl with
        | [v0, v1, v2], _ => simpa [Addr.add] using World.cell?_spot e
      subst hspot
      have hb : b < W.heap.size := by simpa [add_plain] using World.cells?_block hc (by decide)
      have hop : ∀ i, i < len → ∃ y : Int × Int × Fo, OpAt W b (off + i * 3) y := by
        intro i hi
        obtain ⟨cs, y, hc, ht, hy⟩ := hget i hi
        obtain ⟨_, hcl, hcell⟩ := World.cells?_some hc
        obtain ⟨xs, k, hk, hD, _, hxl, hfld⟩ := DataW.trod_struct Try.underlying33 ht
        obtain ⟨y0, y1, y2, rfl⟩ : ∃ y0 y1 y2, xs = [y0, y1, y2] := by
          match xs, hxl with
          | [y0, y1, y2], _ => exact ⟨y0, y1, y2, rfl⟩
        have hg : Light Try.prog 33 y.1 := hlg2 _ (List.mem_map.2 ⟨y, List.mem_of_getElem? hy, rfl⟩)
        have hD1 : y.1 = .agg [y0.1, y1.1, y2.1] := by rw [hD]; rfl
        rw [hD1] at hg
        match cs, hcl with
        | [v0, v1, v2], _ =>
          have g0 := hfld 0 _ rfl
          have g1 := hfld 1 _ rfl
          have g2 := hfld 2 _ rfl
          simp [Try.cells2, Try.cells3, Try.cellsOps] at g0 g1 g2
          have hg2 := light_agg Try.underlying33 hg (j := 2) (u := 23) (d := y2.1) rfl rfl
          obtain ⟨n0, e0, _, w0⟩ := DataW.trod_int Try.underlying3 g0
          obtain ⟨n1, e1, _, w1⟩ := DataW.trod_int Try.underlying2 g1
          obtain ⟨f2, hfs, hfl, hwb, hwn, _⟩ := ih k (by omega) v2 y2 g2 hg2
          simp at e0 e1
          subst e0 e1
          have a0 := hcell 0 (by omega)
          have a1 := hcell 1 (by omega)
          have a2 := hcell 2 (by omega)
          rw [add_add, add_plain] at a0 a1 a2
          exact ⟨(n0, n1, f2), i64_of_wf w0, i64_of_wf w1, by simpa using a0, by simpa [Nat.add_assoc] using a1, ⟨v2, by simpa [Nat.add_assoc] using a2, hfs⟩, hfl, hwb, hwn⟩
      let g : Nat → Int × Int × Fo := fun i => if h : i < len then (hop i h).choose else (0, 0, .nil)
      have hg' : ∀ i (h : i < len), g i = (hop i h).choose := fun i h => by simp [g, h]
      have hmk := mkFo_at (W := W) (b := b) (off := off) g len 0 (fun j hj => by rw [Nat.zero_add, hg' j hj]; exact (hop j hj).choose_spec)
      rw [Nat.zero_mul, Nat.add_zero] at hmk
      refine ⟨mkFo g 0 len, ⟨_, cap, by rw [mkFo_len], .inr ⟨b, off, rfl, hb, hmk.1⟩⟩, by rw [mkFo_len]; omega, hmk.2.1, hmk.2.2, _, _, _, rfl, hl, by unfold maxLen at hm; omega⟩

/-- The law's argument: texts, and ops. -/
theorem open_askc {H : Type} {enc : TypeId × Value → H} {W : World} {base : Nat} {v : Value} {d : DataW H} {p : List MemPlace} (hv : Value.okWide Try.prog W .any base 25 v) (h : DataW.Trod enc Try.prog W 0 (fun _ => true) true 25 v d p) (hlg : Light Try.prog 25 d) :
    ∃ vs vl l f, v = .agg #[vs, vl] ∧ (SS W vs l ∧ List.length l ≤ 8796093021952 ∧ WfS l) ∧ (FS QA W vl f ∧ f.len ≤ 3518437208780 ∧ WfB f ∧ WfN f) ∧ Capd vl := by
  obtain ⟨cs, rfl, hcs⟩ := okWide_struct Try.underlying25 hv
  rw [Try.cellsAsk] at hcs
  obtain ⟨fuel, hf⟩ := h
  obtain ⟨xs, k, _, hD, _, hxl, hfld⟩ := DataW.trod_struct Try.underlying25 hf
  injection hD with hD _
  rw [hD] at hlg
  obtain ⟨cl⟩ := cs
  match cl, hcs, xs, hxl with
  | [v0, v1], _, [y0, y1], _ =>
    have g0 := hfld 0 _ rfl
    have g1 := hfld 1 _ rfl
    have hg0 := light_agg Try.underlying25 hlg (j := 0) (u := 22) (d := y0.1) rfl rfl
    have hg1 := light_agg Try.underlying25 hlg (j := 1) (u := 23) (d := y1.1) rfl rfl
    simp [Try.cellsOps, Try.cellsStrs, Value.cells] at g0 g1
    obtain ⟨f, q1, q2, q3, q4, q5⟩ := open_ops k v1 y1 g1 hg1
    obtain ⟨a, len, cap, e0⟩ : ∃ a len cap, v0 = .slice a len cap := by
      rcases open_slice Try.underlying22 g0 with ⟨hcs, _⟩ | ⟨x, l, c, m, n, D, Pl, hcs, _⟩
      · simp at hcs; exact ⟨_, _, _, hcs⟩
      · simp at hcs; exact ⟨_, _, _, hcs⟩
    subst e0
    obtain ⟨l, _, h2, h3, h4⟩ := open_strl (enc := enc) (p := y0.2) (d := y0.1) ⟨k, by simpa [Value.cells] using g0⟩ hg0
    exact ⟨_, _, l, f, rfl, ⟨h4, h2, h3⟩, ⟨q1, q2, q3, q4⟩, q5⟩
theorem open_ask {H : Type} {enc : TypeId × Value → H} {W : World} {base : Nat} {v : Value} {d : DataW H} {p : List MemPlace} (hv : Value.okWide Try.prog W .any base 25 v) (h : DataW.Trod enc Try.prog W 0 (fun _ => true) true 25 v d p) (hlg : Light Try.prog 25 d) :
    ∃ vs vl l f, v = .agg #[vs, vl] ∧ (SS W vs l ∧ List.length l ≤ 8796093021952 ∧ WfS l) ∧ (FS QA W vl f ∧ f.len ≤ 3518437208780 ∧ WfB f ∧ WfN f) := by
  obtain ⟨vs, vl, l, f, h1, h2, h3, _⟩ := open_askc hv h hlg
  exact ⟨vs, vl, l, f, h1, h2, h3⟩
end Go.Proofs.Ytkmnpaiippgnmab
/- Heavy: one of both. -/
namespace Go.Proofs.Ytkmnpaiippgnmab
open Go.RowKit
set_option linter.unusedVariables false
set_option maxRecDepth 100000

theorem hidA {p : Prop} (h : p) : Hid p := h
/-- What Heavy tells: one of both. -/
def HeavyR (e : Ending) : Prop := ∃ r : Bool, e = .returned (.bool r)
theorem heavy_any (vs vl : Value) (l : List ByteArray) (f : Fo) (w : World) (hS : SS w vs l ∧ List.length l ≤ 8796093021952 ∧ WfS l) (hF : FS QA w vl f ∧ f.len ≤ 3518437208780 ∧ WfB f ∧ WfN f) :
    Calls Try.prog 17 #[.agg #[vs, vl]] w fun e w' => HeavyR e ∧ Below w.heap.size w w' := by
  have hb := (Below.refl w.heap.size w).alloc (Nat.le_refl _) (.cells #[vs, vl] 25)
  have H1 := hidA (weight_any vs l _ (hS.1.below hb) hS.2.1 hS.2.2)
  have H2 := hidA (weightO_any 12 vl f _ (hF.1.below hb) hF.2.1 hF.2.2.1 (Nat.le_refl _))
  rw [show ((12 : Nat) : Int) = 12 from rfl] at H2
  have HB := hidA hb
  obtain ⟨a, cap, rfl, _⟩ := hS.1
  obtain ⟨a', cap', rfl⟩ := hF.1.val
  clear hS hF hb
  go_enter Try.func17, Try.ntmps17
  go_wp2_with (first | (go_at_call 26; refine H1.out.mono ?_; rintro e w' ⟨⟨n, rfl, hn⟩, rfl⟩) | (go_at_call 27; refine H2.out.mono ?_; rintro e w' ⟨⟨z, rfl, hz⟩, rfl⟩))
  all_goals
    go_ret
    exact ⟨⟨_, rfl⟩, HB.out⟩
end Go.Proofs.Ytkmnpaiippgnmab
/- Ops that lie below a block. -/
namespace Go.Proofs.Ytkmnpaiippgnmab
open Go.RowKit
set_option linter.unusedVariables false
set_option maxRecDepth 100000

/-- Memory below B. -/
def QB (B : Nat) (w : World) (b _ : Nat) : Prop := b < B
theorem FS.belowB {B : Nat} {w w' : World} {v : Value} {f : Fo} (h : FS (QB B) w v f) (hb : Below B w w') : FS (QB B) w' v f := h.move fun b o hq => ⟨hb.block b hq, hq⟩
theorem FS.toB {w : World} {v : Value} {f : Fo} (h : FS QA w v f) : FS (QB w.heap.size) w v f := h.move fun b o hq => ⟨rfl, hq⟩
end Go.Proofs.Ytkmnpaiippgnmab
/- An op of ops that may be. -/
namespace Go.Proofs.Ytkmnpaiippgnmab
open Go.RowKit
set_option linter.unusedVariables false
set_option maxRecDepth 100000

theorem okF_at : ∀ {i : Nat} {f b r : Fo} {k n : Int} {d : Nat}, okF f d = true → f.drop i = .cons k n b r → alone k n b = true ∧ (hasB k = true → okF b (d + 1) = true)
  | 0, .nil, b, r, k, n, d, h, e => by simp [Fo.drop] at e
  | 0, .cons _ _ _ _, b, r, k, n, d, h, e => by
    simp [Fo.drop] at e
    obtain ⟨rfl, rfl, rfl, rfl⟩ := e
    simp only [okF, Bool.and_eq_true, decide_eq_true_eq] at h
    refine ⟨h.1.1.2, fun hk => ?_⟩
    have := h.1.2
    rw [hk] at this
    simpa using this
  | i + 1, .nil, b, r, k, n, d, h, e => by simp [Fo.drop] at e
  | i + 1, .cons _ _ _ _, b, r, k, n, d, h, e => by
    simp only [okF, Bool.and_eq_true, decide_eq_true_eq] at h
    exact okF_at (i := i) h.2 e
theorem alone_bd {k n : Int} {b : Fo} (h : alone k n b = true) : 1 ≤ k ∧ k ≤ 30 := by
  unfold alone at h
  simp only [Bool.and_eq_true, decide_eq_true_eq] at h
  omega
end Go.Proofs.Ytkmnpaiippgnmab
