/- The words of ops: wordOf, addWords. -/
import Derived.Test.YtaaijlkjbmpegaaDoorLCountF
import Derived.Test.YtaaijlkjbmpegaaDoorLOpOf2
namespace Go.Proofs.YtaaijlkjbmpegaaDoor
open Go.RowKit Go.Shelf
set_option linter.unusedVariables false
set_option maxRecDepth 100000

theorem okF_at : ∀ {i : Nat} {f b r : Fo} {k n : Int} {d : Nat}, okF f d = true → f.drop i = .cons k n b r → alone k n b = true ∧ (hasB k = true → okF b (d + 1) = true)
  | 0, .nil, b, r, k, n, d, h, e => by simp [Fo.drop] at e
  | 0, .cons _ _ _ _, b, r, k, n, d, h, e => by
    simp [Fo.drop] at e
    obtain ⟨rfl, rfl, rfl, rfl⟩ := e
    simp only [okF, Bool.and_eq_true, decide_eq_true_eq] at h
    refine ⟨h.1.1.2, fun hk => ?_⟩
    have := h.1.2
    rw [hk] at this
    simpa using this
  | i + 1, .nil, b, r, k, n, d, h, e => by simp [Fo.drop] at e
  | i + 1, .cons _ _ _ _, b, r, k, n, d, h, e => by
    simp only [okF, Bool.and_eq_true, decide_eq_true_eq] at h
    exact okF_at (i := i) h.2 e
theorem wordsOf_app (f g : Fo) : wordsOf (f.app g) = wordsOf f ++ wordsOf g := by
  induction f with
  | nil => rfl
  | cons k n b r _ ih => simp only [Fo.app, wordsOf, ih]; simp
theorem words_take_le (i : Nat) (f : Fo) : (wordsOf (f.take i)).length ≤ (wordsOf f).length := by
  have := Fo.take_drop i f
  rw [show (wordsOf f).length = (wordsOf ((f.take i).app (f.drop i))).length by rw [this], wordsOf_app]
  simp

theorem wordOf_any (k n : Int) (a : Option Addr) (b : Fo) (cap : Nat) (w : World) (ha : alone k n b = true) (h0 : -9223372036854775808 ≤ n) (h1 : n ≤ 9223372036854775807) (hE : Env w) :
    Calls Tryd.prog 39 #[.agg #[.int .i64 k, .int .i64 n, .slice a b.len cap]] w fun e w' => e = .returned (.string (ba (wordOf k n))) ∧ Below w.heap.size w w' := by
  have hB := (Below.refl w.heap.size w).alloc (Nat.le_refl _) (.cells #[.int .i64 k, .int .i64 n, .slice a b.len cap] 60)
  have hE1 := hE.low hB
  unfold wordOf
  unfold alone at ha
  simp at ha
  obtain ⟨⟨⟨hk1, hk2⟩, _⟩, _⟩ := ha
  by_cases hk : k = 1
  · subst hk
    rw [if_pos rfl]
    have Hf := hidN (format_any n (w.alloc (.cells #[.int .i64 1, .int .i64 n, .slice a b.len cap] 60)) h0 h1 hE1)
    have HB := hidN hB
    clear hE1 hE hB
    go_enter Tryd.func39, Tryd.ntmps39
    go_wp2_with (go_at_call 46; refine Hf.out.mono ?_; rintro e w1 ⟨rfl, hb1⟩)
    go_ret
    exact ⟨rfl, HB.out.trans (hb1.mono (by simp))⟩
  · rw [if_neg hk]
    obtain ⟨j, rfl⟩ : ∃ j : Nat, k = (j : Int) := ⟨k.toNat, by omega⟩
    have hc := hE1.words j (by omega)
    have hki : ((j : Int) == 1) = false := beq_eq_false_iff_ne.2 hk
    have hj0 : (0 : Int) ≤ j := by omega
    have hj1 : (j : Int) < 31 := by omega
    rw [Int.toNat_natCast]
    generalize ba (tab.getD j []) = x at hc ⊢
    have HB := hidN hB
    clear hE1 hE hB
    go_enter Tryd.func39, Tryd.ntmps39
    go_wp2
    go_ret
    exact ⟨rfl, HB.out⟩

/-- Memory below B. -/
def QB (B : Nat) (w : World) (b _ : Nat) : Prop := b < B
theorem FS.belowB {B : Nat} {w w' : World} {v : Value} {f : Fo} (h : FS (QB B) w v f) (hb : Below B w w') : FS (QB B) w' v f := h.move fun b o hq => ⟨hb.block b hq, hq⟩
theorem FS.toB {w : World} {v : Value} {f : Fo} (h : FS QA w v f) : FS (QB w.heap.size) w v f := h.move fun b o hq => ⟨rfl, hq⟩
theorem Tryd.infoS : (Tryd.prog.info? 9).map (fun i => (i.zero, i.size, i.bytes)) = some (some (.string ⟨#[]⟩), 1, 16) := by kernel_rfl
theorem one_str (s : ByteArray) : ∀ u ∈ [Value.string s], u.oneCell' = true := by intro u hu; simp at hu; subst hu; rfl

/-- Words gathered, and an op's box beside them. -/
structure St (B : Nat) (w : World) (bx : Nat) (kk nn : Int) (sv v : Value) (wl : List ByteArray) (wr : World) : Prop where
  own : OwnS wr B v wl
  bel : Below B w wr
  box : BlkO wr bx kk nn sv
  ne : ∀ j, v.ownBlock = some j → j ≠ bx
  size : B ≤ wr.heap.size
theorem St.call {B bx : Nat} {w wr w' : World} {kk nn : Int} {sv v : Value} {wl : List ByteArray} (h : St B w bx kk nn sv v wl wr) (hb : Below wr.heap.size wr w') : St B w bx kk nn sv v wl w' :=
  ⟨OwnS.below h.own hb, h.bel.trans (hb.mono h.size), h.box.step hb, h.ne, Nat.le_trans h.size hb.size⟩
theorem St.app {B bx : Nat} {w wr w2 : World} {kk nn : Int} {sv v v2 : Value} {wl : List ByteArray} {x : ByteArray} (h : St B w bx kk nn sv v wl wr)
    (ho : w2.ownsRow B 9 1 v2 (wl.length + 1) (flatS wl ++ [.string x])) (hg : wr.grownBy w2 v.ownBlock) (hat : v2.ownBlock = v.ownBlock ∨ v2.ownBlock = some wr.heap.size) : St B w bx kk nn sv v2 (wl ++ [x]) w2 := by
  have hlt := h.box.lt
  refine ⟨OwnS.snoc ho rfl, h.bel.grown hg h.size (own_rowS h.own), ?_, ?_, Nat.le_trans h.size hg.size⟩
  · unfold BlkO
    rw [hg.block bx hlt (fun e => h.ne bx e.symm rfl)]
    exact h.box
  · intro j hj
    rcases hat with e | e
    · rw [e] at hj; exact h.ne j hj
    · rw [e] at hj; injection hj; omega
theorem St.new {B : Nat} {w wr : World} {kk nn : Int} {sv v : Value} {wl : List ByteArray} (ho : OwnS wr B v wl) (hb : Below B w wr) (hB : B ≤ wr.heap.size) : St B w wr.heap.size kk nn sv v wl (wr.alloc (.cells #[.int .i64 kk, .int .i64 nn, sv] 60)) :=
  ⟨OwnS.below ho ((Below.refl _ _).alloc (Nat.le_refl _) _), hb.alloc hB _, BlkO.new _ _ _ _, fun j hj => by have := (ho.lt j hj).2; omega, by simp; omega⟩
set_option maxHeartbeats 1600000 in
theorem words_sz (B : Nat) (hB7 : 7 ≤ B) : ∀ (s : Nat) (f : Fo) (sv v : Value) (ws0 : List ByteArray) (w : World) (d : Nat), f.sz ≤ s → FS (QB B) w sv f → f.len ≤ 3518437208780 → WfB f → WfN f → okF f d = true → ws0.length + (wordsOf f).length ≤ 1000 → OwnS w B v ws0 → Env w → B ≤ w.heap.size →
    Calls Tryd.prog 31 #[v, sv] w fun e w' => ∃ v', e = .returned v' ∧ OwnS w' B v' (ws0 ++ (wordsOf f).map ba) ∧ Below B w w' := by
  intro s
  induction s with
  | zero =>
    intro f sv v ws0 w d hs h hl hwf hwn hok hlen hown hE hB
    obtain rfl : f = .nil := by cases f with
      | nil => rfl
      | cons k n b r => simp [Fo.sz] at hs
    obtain ⟨a1, cap, rfl⟩ := h.val
    simp only [Fo.len]
    have HO : Hid (OwnS w B v (ws0 ++ (wordsOf .nil).map ba)) := by simpa [Hid, wordsOf] using hown
    obtain ⟨a2, cap2, hv⟩ := OwnS.shape hown
    subst hv
    clear hs h hl hwf hwn hok hlen hown hE
    go_enter Tryd.func31, Tryd.ntmps31
    go_wp2
    go_loop [0, 9] (fun x i => x = .slice a2 ws0.length cap2 ∧ i = .int .i64 0) (fun _ _ => 0)
    case atStart => exact ⟨rfl, rfl⟩
    case round =>
      obtain ⟨rfl, rfl⟩ := hrel
      go_wp2
      go_ret
      exact ⟨_, rfl, HO.out, Below.refl _ _⟩
  | succ s ih =>
    intro f sv v ws0 w d hs h hl hwf hwn hok hlen hown hE hB
    rcases h.shape with ⟨a1, cap, rfl, hf⟩ | ⟨g, o, cap, rfl, hq, hat⟩
    · subst hf
      exact ih .nil _ v ws0 w d (by simp [Fo.sz]) h hl hwf hwn hok hlen hown hE hB
    obtain ⟨i9, hi, hz0, hz1, hz2⟩ := info_parts Tryd.infoS
    obtain ⟨n, hn⟩ : ∃ n, f.len = n := ⟨_, rfl⟩
    rw [hn] at hl ⊢
    have HN : Hid (f.len = n) := hn
    have HI := hidN ih
    have hgw : g < B := hq
    have Hat := hidN hat
    have Hwf := hidN hwf
    have Hwn := hidN hwn
    have Hok := hidN hok
    have HE := hidN hE
    have H0 : Hid (OwnS w B v (ws0 ++ (wordsOf (f.take 0)).map ba)) := by
      have : f.take 0 = .nil := by cases f <;> rfl
      rw [this]
      simpa [Hid, wordsOf] using hown
    clear hn ih h hat hwf hwn hok hE hown
    go_enter Tryd.func31, Tryd.ntmps31
    go_wp2
    go_loopw [0, 9] (fun x i wr => ∃ k : Nat, k ≤ n ∧ i = .int .i64 k ∧ OwnS wr B x (ws0 ++ (wordsOf (f.take k)).map ba) ∧ Below B w wr) (fun _ i _ => n - (intOf i).toNat)
    case atStart => exact ⟨0, by omega, rfl, H0.out, Below.refl _ _⟩
    case round =>
      obtain ⟨k, hk, rfl, hown, hbel⟩ := hrel
      have hsz := hbel.size
      by_cases hlt : k < n
      · have hat' : FoAt (QB B) wr f g o := Hat.out.move (fun b o hq => ⟨hbel.block b hq, hq⟩) (hbel.block g hgw)
        obtain ⟨kk, nn, b, r, su, e1, e2, e3, c0, c1, c2, hsu⟩ := hat'.at (i := k) (by rw [HN.out]; exact hlt)
        obtain ⟨hb1, hb2⟩ := Hwf.out.at e1
        obtain ⟨_, hnn, hb3⟩ := Hwn.out.at e1
        obtain ⟨hal, hob⟩ := okF_at Hok.out e1
        have hbs := Fo.sz_blk e1
        have HT := hidN e3
        have hle := words_take_le (k + 1) f
        have hE1 := HE.out.below hbel hB7
        have Hs : Hid (FS (QB B) wr su b) := hsu
        obtain ⟨a1, cap1, rfl⟩ := hsu.val
        have hgr : g < wr.heap.size := by omega
        have hB1 := (Below.refl wr.heap.size wr).alloc (Nat.le_refl _) (.cells #[.int .i64 kk, .int .i64 nn, .slice a1 b.len cap1] 60)
        have Hw := hidN (wordOf_any kk nn a1 b cap1 (wr.alloc (.cells #[.int .i64 kk, .int .i64 nn, .slice a1 b.len cap1] 60)) hal hnn.1 hnn.2 (hE1.low hB1))
        have HB1 := hidN hB1
        have HOw := hidN hown
        have HBel := hidN hbel
        have HE1 := hidN hE1
        have Hob := hidN hob
        obtain ⟨a2, cap2, hv⟩ := OwnS.shape hown
        clear e1 e2 e3 hat' hsu hB1 hown hbel hE1 hob hal
        have hSt := St.new (kk := kk) (nn := nn) (sv := .slice a1 b.len cap1) HOw.out HBel.out (Nat.le_trans hB hsz)
        have HS0 := hidN hSt
        obtain ⟨wl, hwl⟩ : ∃ wl, ws0 ++ (wordsOf (f.take k)).map ba = wl := ⟨_, rfl⟩
        rw [hwl] at HS0 hv
        have HWL := hidN hwl
        have hwlen : wl.length = ws0.length + (wordsOf (f.take k)).length := by rw [← hwl]; simp
        have htk : wordsOf (f.take (k + 1)) = wordsOf (f.take k) ++ wordsOf (.cons kk nn b .nil) := by rw [HT.out, wordsOf_app]
        have HTK := hidN htk
        rw [htk] at hle
        generalize hx : ba (wordOf kk nn) = x at Hw
        have HX := hidN hx
        subst hv
        clear hSt hwl htk hx
        have Hh := hidN (fun W => hasB_any kk W)
        cases hbk : hasB kk with
        | false =>
          rw [hbk] at Hh
          simp only [wordsOf, hbk, Bool.false_eq_true, if_false, List.append_nil, List.length_append, List.length_singleton] at hle
          have hl1 : wl.length + 1 ≤ 1000 := by omega
          have HR : Hid (wl ++ [x] = ws0 ++ (wordsOf (f.take (k + 1))).map ba) := by
            unfold Hid
            rw [HTK.out, ← HWL.out, ← HX.out]
            simp [wordsOf, hbk]
          clear hbk hle hwlen
          go_wp2_with fail
          refine Hw.out.mono ?_
          rintro e w1 ⟨rfl, hb1⟩
          have hS1 := HS0.out.call hb1
          have hS2 := hS1.call ((Below.refl w1.heap.size w1).alloc (Nat.le_refl _) (.cells #[.string x] 9))
          have HS2 := hidN hS2
          have hs1 := hS1.size
          clear hS1 hS2 hb1 c0 c1 c2
          go_wp2_with (at_builtin; refine wpList_append_own_at _ rfl _ _ 22 rfl B 9 i9 _ 1 16 Tryd.underlying22 hi hz0 hz1 hz2 rfl (by decide) (.slice a2 wl.length cap2) (wl).length (flatS (wl)) rfl ?caO ⟨w1.heap.size, 0, none⟩ 1 1 [.string x] rfl rfl (cell_one_new _ _ _) (one_str _) ?ca3 ?ca4 ?ca5 ?_)
          case caO => exact HS2.out.own
          case ca3 => unfold maxLen; omega
          case ca4 => omega
          case ca5 => simp; omega
          intro v2 w2 hown2 hgrow2 _ hat2
          have hS3 := HS2.out.app hown2 hgrow2 (by simpa using hat2)
          obtain ⟨d0, d1, d2⟩ := hS3.box.cells
          have HS3 := hidN hS3
          clear hS3 hown2 hgrow2 hat2
          go_wp2_with (go_at_call 40; refine (Hh.out _).mono ?_; rintro e w' ⟨rfl, rfl⟩)
          go_roundw
          case rel => exact ⟨k + 1, by omega, by go_num, by rw [← HR.out]; exact HS3.out.own, HS3.out.bel⟩
          case measure => simp [intOf]; omega
        | true =>
          rw [hbk] at Hh
          simp only [wordsOf, hbk, if_true, List.append_nil, List.length_append, List.length_cons, List.length_nil] at hle
          have hl1 : wl.length + 3 + (wordsOf b).length ≤ 1000 := by omega
          have HR : Hid (wl ++ [x] ++ [ba [91]] ++ (wordsOf b).map ba ++ [ba [93]] = ws0 ++ (wordsOf (f.take (k + 1))).map ba) := by
            unfold Hid
            rw [HTK.out, ← HWL.out, ← HX.out]
            simp [wordsOf, hbk, openW, shutW]
          have hob := Hob.out hbk
          have HOB := hidN hob
          clear hbk hle hwlen hob
          go_wp2_with fail
          refine Hw.out.mono ?_
          rintro e w1 ⟨rfl, hb1⟩
          have hS1 := HS0.out.call hb1
          have hS2 := hS1.call ((Below.refl w1.heap.size w1).alloc (Nat.le_refl _) (.cells #[.string x] 9))
          have HS2 := hidN hS2
          have hs1 := hS1.size
          clear hS1 hS2 hb1 c0 c1 c2
          go_wp2_with (at_builtin; refine wpList_append_own_at _ rfl _ _ 22 rfl B 9 i9 _ 1 16 Tryd.underlying22 hi hz0 hz1 hz2 rfl (by decide) (.slice a2 wl.length cap2) (wl).length (flatS (wl)) rfl ?caO ⟨w1.heap.size, 0, none⟩ 1 1 [.string x] rfl rfl (cell_one_new _ _ _) (one_str _) ?ca3 ?ca4 ?ca5 ?_)
          case caO => exact HS2.out.own
          case ca3 => unfold maxLen; omega
          case ca4 => omega
          case ca5 => simp; omega
          intro v2 w2 hown2 hgrow2 _ hat2
          have hS3 := HS2.out.app hown2 hgrow2 (by simpa using hat2)
          obtain ⟨d0, d1, d2⟩ := hS3.box.cells
          obtain ⟨wl2, hwl2⟩ : ∃ wl2, wl ++ [x] = wl2 := ⟨_, rfl⟩
          rw [hwl2] at hS3 HR
          have hl2 : wl2.length + 2 + (wordsOf b).length ≤ 1000 := by rw [← hwl2]; simp; omega
          have HS3 := hidN hS3
          have HS4 := hidN (hS3.call ((Below.refl w2.heap.size w2).alloc (Nat.le_refl _) (.cells #[.string ⟨#[91]⟩] 9)))
          have hs2 := hS3.size
          obtain ⟨a3, cap3, hv3⟩ := OwnS.shape hS3.own
          subst hv3
          clear hS3 hown2 hgrow2 hat2 hwl2
          go_wp2_with fail
          refine (Hh.out _).mono ?_
          rintro e w2 ⟨rfl, rfl⟩
          go_wp2_with ((at_builtin; refine wpList_append_own_at _ rfl _ _ 22 rfl B 9 i9 _ 1 16 Tryd.underlying22 hi hz0 hz1 hz2 rfl (by decide) (.slice a3 wl2.length cap3) (wl2).length (flatS (wl2)) rfl ?cbO ⟨w2.heap.size, 0, none⟩ 1 1 [.string ⟨#[91]⟩] rfl rfl (cell_one_new _ _ _) (one_str _) ?cb3 ?cb4 ?cb5 ?_))
          case cbO => exact HS4.out.own
          case cb3 => unfold maxLen; omega
          case cb4 => omega
          case cb5 => simp; omega
          intro v3 w3 hown3 hgrow3 _ hat3
          have hS5 := HS4.out.app hown3 hgrow3 (by simpa using hat3)
          obtain ⟨d0, d1, d2⟩ := hS5.box.cells
          obtain ⟨wl3, hwl3⟩ : ∃ wl3, wl2 ++ [⟨#[91]⟩] = wl3 := ⟨_, rfl⟩
          have HR3 : Hid (wl3 ++ (wordsOf b).map ba ++ [ba [93]] = ws0 ++ (wordsOf (f.take (k + 1))).map ba) := by rw [← hwl3]; exact HR.out
          rw [hwl3] at hS5
          have hl3 : wl3.length + 1 + (wordsOf b).length ≤ 1000 := by rw [← hwl3]; simp; omega
          have hs3 := hS5.size
          have hc := HI.out b (.slice a1 b.len cap1) v3 wl3 w3 (d + 1) (by omega) (Hs.out.move (fun c q hq => ⟨(hS5.bel.block c hq).trans (HBel.out.block c hq).symm, hq⟩)) hb1 hb2 hb3 HOB.out (by omega) hS5.own (HE.out.below hS5.bel hB7) hS5.size
          have Hc := hidN hc
          have HS5 := hidN hS5
          obtain ⟨a4, cap4, hv4⟩ := OwnS.shape hS5.own
          subst hv4
          clear hS5 hown3 hgrow3 hat3 hwl3 hc
          go_wp2_with (go_at_call 31; refine Hc.out.mono ?_)
          rintro e w4 ⟨v4, rfl, hown4, hb4⟩
          have hbw4 := HS5.out.bel.trans hb4
          have hs4 := hb4.size
          obtain ⟨wl4, hwl4⟩ : ∃ wl4, wl3 ++ (wordsOf b).map ba = wl4 := ⟨_, rfl⟩
          have HR4 : Hid (wl4 ++ [⟨#[93]⟩] = ws0 ++ (wordsOf (f.take (k + 1))).map ba) := by rw [← hwl4]; exact HR3.out
          rw [hwl4] at hown4
          have hl4 : wl4.length + 1 ≤ 1000 := by rw [← hwl4]; simp; omega
          have HO4 := hidN (OwnS.below hown4 ((Below.refl w4.heap.size w4).alloc (Nat.le_refl _) (.cells #[.string ⟨#[93]⟩] 9)))
          have HB4 := hidN (hbw4.alloc (by omega) (.cells #[.string ⟨#[93]⟩] 9))
          obtain ⟨a5, cap5, hv5⟩ := OwnS.shape hown4
          subst hv5
          clear hown4 hb4 hbw4 hwl4 d0 d1 d2
          go_wp2_with (at_builtin; refine wpList_append_own_at _ rfl _ _ 22 rfl B 9 i9 _ 1 16 Tryd.underlying22 hi hz0 hz1 hz2 rfl (by decide) (.slice a5 wl4.length cap5) (wl4).length (flatS (wl4)) rfl ?cdO ⟨w4.heap.size, 0, none⟩ 1 1 [.string ⟨#[93]⟩] rfl rfl (cell_one_new _ _ _) (one_str _) ?cd3 ?cd4 ?cd5 ?_)
          case cdO => exact HO4.out
          case cd3 => unfold maxLen; omega
          case cd4 => omega
          case cd5 => simp; omega
          intro v6 w6 hown6 hgrow6 _ hat6
          have HO6 := hidN (OwnS.snoc hown6 rfl)
          have HB6 := hidN (HB4.out.grown hgrow6 (by simp; omega) (own_rowS HO4.out))
          clear hown6 hgrow6 hat6
          go_wp2
          go_roundw
          case rel => exact ⟨k + 1, by omega, by go_num, by rw [← HR4.out]; exact HO6.out, HB6.out⟩
          case measure => simp [intOf]; omega
      · have hke : k = n := by omega
        have HO : Hid (OwnS wr B u0 (ws0 ++ (wordsOf f).map ba)) := by
          have := hown
          rw [hke, ← HN.out, Fo.take_all _ f (Nat.le_refl _)] at this
          exact this
        have hlt' : n ≤ k := by omega
        obtain ⟨a2, cap2, hv⟩ := OwnS.shape hown
        clear hke hown
        subst hv
        go_wp2
        go_ret
        exact ⟨_, rfl, HO.out, hbel⟩
end Go.Proofs.YtaaijlkjbmpegaaDoor
