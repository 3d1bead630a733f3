/- check: list, Need, Check. -/
import Derived.Test.YtjegnffhegiajaaCFn
namespace Go.Proofs.Ytjegnffhegiajaa
open Go.RowKit
set_option linter.unusedVariables false
set_option maxRecDepth 100000

theorem fs_grown {B R : Nat} {w w' : World} {v : Value} {f : Fo} (h : FS (QB B) w v f) (hg : w.grownBy w' (some R)) (hB : B ≤ R) (hs : B ≤ w.heap.size) : FS (QB B) w' v f :=
  h.move fun b o hq => ⟨hg.block b (Nat.lt_of_lt_of_le hq hs) (fun e => by injection e with e; have : b < B := hq; omega), hq⟩
/-- Where list has come to. -/
structure LK (f : Fo) (h m : Int) (B R : Nat) (w : World) (k : Nat) (wr : World) : Prop where
  st : ∃ h' m', BlkS wr R h' m' ∧ h ≤ h' ∧ h' ≤ m' ∧ m' ≤ 16 ∧ nd f h h m = nd (f.drop k) h' h m'
  gr : w.grownBy wr (some R)
theorem LK.fin {f : Fo} {h m : Int} {B R k : Nat} {w wr : World} (H : LK f h m B R w k wr) (hk : f.len ≤ k) : ListR f h m R w (.returned (.bool true)) wr := by
  obtain ⟨h', m', hb, _, _, _, e⟩ := H.st
  rw [Fo.drop_all _ _ hk] at e
  exact .inl ⟨h', m', e, rfl, hb⟩
set_option maxHeartbeats 1600000 in
theorem list_chk (B : Nat) : ∀ (s : Nat) (f : Fo), f.sz ≤ s → ListK B f := by
  intro s
  induction s with
  | zero =>
    intro f hs v w h m R hf hl hwf hb hB h0 h1 h2
    obtain rfl : f = .nil := by cases f with
      | nil => rfl
      | cons k n b r => simp [Fo.sz] at hs
    obtain ⟨⟨c0, c1⟩, _⟩ := hb.cells
    obtain ⟨a, cap, rfl⟩ := hf.val
    have HB := hidK hb
    simp only [Fo.len]
    clear hs hl hwf hf hb
    go_enter Try.func22, Try.ntmps22
    go_wp2
    go_loop [14] (fun i => i = .int .i64 0) (fun _ => 0)
    case atStart => exact rfl
    case round =>
      subst hrel
      go_wp2
      go_ret
      exact ⟨.inl ⟨h, m, rfl, rfl, HB.out⟩, World.grownBy.refl _ _⟩
  | succ s ih =>
    intro f hs v w h m R hf hl hwf hb hB h0 h1 h2
    rcases hf.shape with ⟨a1, cap, rfl, hfn⟩ | ⟨g, o, cap, rfl, hq, hat⟩
    · subst hfn
      exact ih .nil (by simp [Fo.sz]) _ w h m R hf hl hwf hb hB h0 h1 h2
    obtain ⟨⟨c0, c1⟩, _⟩ := hb.cells
    obtain ⟨n, hn⟩ : ∃ n, f.len = n := ⟨_, rfl⟩
    have hBw : B ≤ w.heap.size := by have := hb.lt; omega
    have hRw := hb.lt
    have hstart := hidK (LK.mk (f := f) (h := h) (m := m) (B := B) (R := R) (w := w) (k := 0) ⟨h, m, hb, by omega, h1, h2, by cases f <;> rfl⟩ (World.grownBy.refl w _))
    rw [hn] at hl ⊢
    have HN : Hid (f.len = n) := hn
    have HI := hidK ih
    have hgB : g < B := hq
    have Hat := hidK hat
    have Hwf := hidK hwf
    have HSZ := hidK hs
    clear hn ih hat hwf hf hq hs hb
    go_enter Try.func22, Try.ntmps22
    go_wp2
    go_loopw [7, 14] (fun _ i wr => ∃ k : Nat, k ≤ n ∧ i = .int .i64 k ∧ LK f h m B R w k wr) (fun _ i _ => n - (intOf i).toNat)
    case atStart => exact ⟨0, by omega, rfl, hstart.out⟩
    case round =>
      obtain ⟨k, hk, rfl, hLK⟩ := hrel
      by_cases hlt : k < n
      · obtain ⟨h', m', hb', hh1, hh2, hh3, hnd⟩ := hLK.st
        have hg := hLK.gr
        have hsz := hg.size
        have hfb : ∀ b, b < B → wr.heap[b]? = w.heap[b]? := fun b hb => hg.block b (by omega) (fun e => by injection e; omega)
        have hat' : FoAt (QB B) wr f g o := Hat.out.move (fun b o hq => ⟨hfb b hq, hq⟩) (hfb g hgB)
        obtain ⟨kk, nn, b, r, sv, e1, e2, e3, c0', c1', c2', hsv⟩ := hat'.at (i := k) (by rw [HN.out]; exact hlt)
        obtain ⟨hb1, hb2⟩ := Hwf.out.at e1
        have hbs := Fo.sz_blk e1
        have hbz : b.sz ≤ s := by have := HSZ.out; omega
        have hLb := HI.out b hbz
        rw [e1] at hnd
        have HND := hidK hnd
        have HD := hidK e2
        obtain ⟨a1, cap1, rfl⟩ := hsv.val
        have hgr : g < wr.heap.size := by omega
        have hB1 := (Below.refl wr.heap.size wr).alloc (Nat.le_refl _) (.cells #[.int .i64 kk, .int .i64 nn, .slice a1 b.len cap1] 38)
        have hbx := BlkO.new wr kk nn (.slice a1 b.len cap1)
        have hbS := hb'.step hB1
        have hRr : R < wr.heap.size := by omega
        have hw := word_any kk h' m' h R _ hbS (by omega) (by omega) (by omega) (by omega) h0
        have HW := hidK hw
        have HX := hidK hbx
        have HG := hidK (galloc hg (.cells #[.int .i64 kk, .int .i64 nn, .slice a1 b.len cap1] 38))
        have Hs : Hid (FS (QB B) (wr.alloc (.cells #[.int .i64 kk, .int .i64 nn, .slice a1 b.len cap1] 38)) (.slice a1 b.len cap1) b) := hsv.belowB (hB1.mono (by omega))
        have Hb2 := hidK hb2
        have HLb := hidK hLb
        clear e1 e2 e3 hat' hsv hB1 hbx hbS hw hnd hfb hLK hb' hb2 hLb hg
        go_wp2_with fail
        refine HW.out.mono ?_
        rintro e w1 (⟨hx1, rfl, rfl⟩ | ⟨hx1, rfl, hb2', hg2⟩)
        · have HC : Hid (ListR f h m R w (.returned (.bool false)) (wr.alloc (.cells #[.int .i64 kk, .int .i64 nn, .slice a1 b.len cap1] 38))) := .inr ⟨by rw [HND.out]; exact nd_no1 hx1, rfl⟩
          clear hx1 c0' c1' c2'
          go_wp2
          go_ret
          exact ⟨HC.out, HG.out⟩
        · have HG2 := hidK (HG.out.trans hg2)
          have hbx2 := HX.out.grown hg2 (by omega)
          obtain ⟨d0, d1, d2⟩ := hbx2.cells
          by_cases hx2 : h' - tk kk + lv kk ≤ 16
          · have hld := lv_bd kk
            have hs2 := hg2.size
            have hs3 : wr.heap.size + 1 ≤ w1.heap.size := by simpa using hs2
            have hbk := block_chk B b HLb.out _ w1 _ _ R (fs_grown Hs.out hg2 hB (by simp; omega)) hb1 Hb2.out hb2' hB (by omega) (by omega) (by omega)
            have HBK := hidK hbk
            have hdx : decide (h' - tk kk + lv kk ≤ 16) = true := decide_eq_true hx2
            rw [hdx]
            have HX1 := hidK hx1
            have HX2 := hidK hx2
            clear hx1 hx2 hbk hbx2 hb2' hg2 c0' c1' c2' hdx
            go_wp2_with fail
            refine HBK.out.mono ?_
            rintro e w2 ⟨hr, hg3⟩
            have HG3 := hidK (HG2.out.trans hg3)
            rcases hr with ⟨p, hn1, rfl, hb3⟩ | ⟨hn1, rfl⟩
            · have hbd := nd_bd _ _ _ _ _ _ hn1 (by omega) (by omega) (by have := HX2.out; omega)
              have HL : Hid (LK f h m B R w (k + 1) w2) := ⟨⟨_, p, hb3, by have := HX1.out; omega, by omega, by omega, by rw [HND.out, nd_mk HX1.out HX2.out hn1, HD.out]⟩, HG3.out⟩
              clear hn1 hb3 hg3 hbd d0 d1 d2
              go_wp2
              go_roundw
              case rel => exact ⟨k + 1, by omega, by go_num, HL.out⟩
              case measure => simp [intOf]; omega
            · have HC : Hid (ListR f h m R w (.returned (.bool false)) w2) := .inr ⟨by rw [HND.out]; exact nd_no3 hn1, rfl⟩
              clear hn1 hg3 d0 d1 d2
              go_wp2
              go_ret
              exact ⟨HC.out, HG3.out⟩
          · have hdx : decide (h' - tk kk + lv kk ≤ 16) = false := decide_eq_false hx2
            have HC : Hid (ListR f h m R w (.returned (.bool false)) w1) := .inr ⟨by rw [HND.out]; exact nd_no2 (by omega), rfl⟩
            rw [hdx]
            clear hx1 hx2 hbx2 hb2' hg2 hdx c0' c1' c2'
            go_wp2
            go_ret
            exact ⟨HC.out, HG2.out⟩
      · have hlt' : n ≤ k := by omega
        have HC := hidK (hLK.fin (by rw [HN.out]; exact hlt'))
        have HG := hidK hLK.gr
        clear hLK
        go_wp2
        go_ret
        exact ⟨HC.out, HG.out⟩
end Go.Proofs.Ytjegnffhegiajaa
