/- Texts laid together: LRead, LReadO, LReadL. -/
import Derived.Test.YtaagllbcmgnbnaaGreatDoorMB38
import Derived.Test.YtaagllbcmgnbnaaGreatDoorMB39
import Derived.Deep.LoopGhost
import Derived.Test.YtaagllbcmgnbnaaGreatDoorMB15
/- How words are read: what block, op and list tell. -/
namespace Go.Proofs.YtaagllbcmgnbnaaGreatDoor
open Go.RowKit Go.Shelf
set_option linter.unusedVariables false
set_option maxRecDepth 100000

/-- What one op comes to. -/
inductive Or1 where
  | err (c : Int)
  | ok (k n : Int) (b : Fo) (ws : List (List UInt8)) (m : Nat)
def OPP (d : Nat) (x : List UInt8) (ws : List (List UInt8)) (m : Nat) : Or1 → Prop
  | .err c => PL d (x :: ws) m (.err c) ∧ c ≠ 0
  | .ok k n b ws' m' => (∀ r, PL d ws' m' r → PL d (x :: ws) m (r.pre (one k n b))) ∧ m' ≤ 128 ∧ m < m' ∧ ∃ u, ws = u ++ ws'
/-- What list tells. -/
def LRes (R G : Nat) (w w' : World) (e : Ending) : Rs → Prop
  | .err c => e = .returned (.tuple #[.slice none 0 0, .int .i64 c]) ∧ c ≠ 0
  | .ok f ws' m' => ∃ v, e = .returned (.tuple #[v, .int .i64 0]) ∧ OwnF w.heap.size w' v f ∧ RB w' R G ws' m'
def LR (R G d : Nat) (ws : List (List UInt8)) (m : Nat) (w : World) (e : Ending) (w' : World) : Prop := ∃ r, PL d ws m r ∧ w.grownBy w' (some R) ∧ LRes R G w w' e r
/-- list's contract, at fewer than N words. -/
def ListC (N : Nat) : Prop := ∀ (ws : List (List UInt8)) (d m R G : Nat) (w : World), ws.length < N → d ≤ 6 → m ≤ 128 → WW ws → RB w R G ws m → Env w → 8 ≤ R →
  Calls Tryz.prog 154 #[.pointer (some ⟨R, 0, none⟩), .int .i64 d] w fun e w' => LR R G d ws m w e w'
/-- What block tells. -/
def BRes (R G : Nat) (w w' : World) (e : Ending) (k n : Int) : Or1 → Prop
  | .err c => e = .returned (.tuple #[.slice none 0 0, .int .i64 c])
  | .ok k' n' b ws' m' => k' = k ∧ n' = n ∧ ∃ v, e = .returned (.tuple #[v, .int .i64 0]) ∧ OwnF w.heap.size w' v b ∧ RB w' R G ws' m'
/-- What op tells. -/
def ORes (R G : Nat) (w w' : World) (e : Ending) : Or1 → Prop
  | .err c => e = .returned (.tuple #[.agg #[.int .i64 0, .int .i64 0, .slice none 0 0], .int .i64 c])
  | .ok k n b ws' m' => ∃ v, e = .returned (.tuple #[.agg #[.int .i64 k, .int .i64 n, v], .int .i64 0]) ∧ OwnF w.heap.size w' v b ∧ RB w' R G ws' m'

theorem rb_many {w : World} {R G m : Nat} {ws : List (List UInt8)} (h : RB w R G ws m) (m' : Nat) : RB (w.setCell ⟨R, 1, none⟩ (.int .i64 (m' : Int))) R G ws m' := by
  obtain ⟨h1, h2, a, cap, o, hb, hc, ha, hst⟩ := h
  refine ⟨h1, by simpa [World.setCell] using h2, a, cap, o, ?_, hc, ha, fun i x hx => ?_⟩
  · show (w.heap.modify _ _)[R]? = _
    rw [Array.getElem?_modify, hb]
    simp
  · rw [World.cell?_of_block (a := ⟨G, o + i, none⟩) (Below.heap_setCell _ _ _ _ h1)]
    exact hst i x hx
theorem RB.cell1 {w : World} {R G m : Nat} {ws : List (List UInt8)} (h : RB w R G ws m) : w.cell? ⟨R, 1, none⟩ = some (.int .i64 m) ∧ w.frozen? ⟨R, 1, none⟩ = false := by
  obtain ⟨h1, h2, a, cap, o, hb, _⟩ := h
  constructor <;> simp [World.cell?, World.frozen?, hb]
theorem RB.set {w : World} {R G m b q : Nat} {ws : List (List UInt8)} (h : RB w R G ws m) (hR : b ≠ R) (hG : b ≠ G) (u : Value) : RB (w.setCell ⟨b, q, none⟩ u) R G ws m :=
  h.keep (Below.heap_setCell _ _ _ _ (by show R ≠ b; omega)) (Below.heap_setCell _ _ _ _ (by show G ≠ b; omega)) (by simp [World.setCell])

set_option maxHeartbeats 400000 in
/-- block, behind an if or rep that may be. -/
theorem block_any (N : Nat) (IH : ListC N) (x : List UInt8) (k n : Int) (ws : List (List UInt8)) (d m R G : Nat) (w : World) (hN : ws.length ≤ N) (hd : d ≤ 6) (hm : m < 128) (hW : WW ws) (hx : opW x = some (k, n)) (hk : hasB k = true)
    (hr : RB w R G ws (m + 1)) (hE : Env w) (hR : 8 ≤ R) :
    Calls Tryz.prog 208 #[.pointer (some ⟨R, 0, none⟩), .int .i64 (d + 1)] w fun e w' => ∃ res, OPP d x ws m res ∧ w.grownBy w' (some R) ∧ BRes R G w w' e k n res := by
  cases ws with
  | nil =>
    have Hc := hidR (next_nil R G (m + 1) w hr)
    have HP := hidR (PL.cutB hx hk d (m := m) (by omega))
    clear hr hE
    go_enter Tryz.func208, Tryz.ntmps208
    go_wp2_with (go_at_call 177; refine Hc.out.mono ?_; rintro e w1 ⟨rfl, rfl⟩)
    go_ret2
    exact ⟨.err 6, ⟨HP.out, by decide⟩, World.grownBy.refl _ _, rfl⟩
  | cons y ws =>
    have hl := hW.1
    simp only [List.length_cons] at hl hN
    have Hc := hidR (next_cons R G (m + 1) y ws w hr (by omega))
    by_cases hy : y = openW
    · subst hy
      by_cases hd6 : 6 < d + 1
      · have HP := hidR (PL.deepB hx hk (m := m) (by omega) hd6 ws)
        have hy2 : (openW == [91]) = true := by decide
        have hdi : (6 : Int) < (d : Int) + 1 := by omega
        clear hr hE
        go_enter Tryz.func208, Tryz.ntmps208
        go_wp2_with (go_at_call 177; refine Hc.out.mono ?_; rintro e w1 ⟨rfl, hg1, hr1⟩)
        go_ret2
        exact ⟨.err 2, ⟨HP.out, by decide⟩, hg1, rfl⟩
      · have hdi : ¬ (6 : Int) < (d : Int) + 1 := by omega
        have hdi2 : (d : Int) + 1 ≤ 6 := by omega
        have HH := hidR IH
        have HE := hidR hE
        have HX := hidR hx
        have HK := hidR hk
        have HWW := hidR hW.tail
        clear hr hE hx hk hW IH
        go_enter Tryz.func208, Tryz.ntmps208
        go_wp2_with (go_at_call 177; refine Hc.out.mono ?_; rintro e w1 ⟨rfl, hg1, hr1⟩)
        have hL := HH.out ws (d + 1) (m + 1) R G w1 (by omega) (by omega) (by omega) HWW.out hr1 (HE.out.grown hg1 hR) hR
        rw [show ((d + 1 : Nat) : Int) = (d : Int) + 1 by omega] at hL
        refine hL.mono ?_
        rintro e w2 ⟨r, hp, hg2, hres⟩
        cases r with
        | err c =>
          obtain ⟨rfl, hc0⟩ := hres
          have HP := hidR (PL.errB HX.out HK.out (m := m) (by omega) hd6 hp)
          clear hp hr1
          go_wp2
          go_ret2
          exact ⟨.err c, ⟨HP.out, hc0⟩, hg1.trans hg2, rfl⟩
        | ok f ws' m' =>
          obtain ⟨v, rfl, hown, hr2⟩ := hres
          obtain ⟨fu, hfu⟩ := hp
          obtain ⟨_, _, hmt, hm2, u, hu⟩ := read_ok fu (d + 1) ws (m + 1) f ws' m' hfu (fun x hx => (HWW.out.2 x hx).1) (by omega) (by omega)
          have hmlt : m < m' := by omega
          clear hmt
          have HP := hidR (fun r (h2 : PL d ws' m' r) => PL.blk HX.out HK.out (m := m) (by omega) hd6 ⟨fu, hfu⟩ h2)
          have HO := hidR hown
          have HR := hidR hr2
          have HU := hidR hu
          obtain ⟨a, cap, rfl⟩ := hown.len
          have hsz := hg1.size
          clear hfu hr1 hown hr2 hu
          go_wp2
          go_ret2
          exact ⟨.ok k n f ws' m', ⟨HP.out, hm2, hmlt, openW :: u, by rw [HU.out]; rfl⟩, hg1.trans hg2, rfl, rfl, _, rfl, HO.out.lower hsz, HR.out⟩
    · have HP := hidR (PL.badB hx hk d (m := m) (by omega) hy ws)
      have hy2 : (y == [91]) = false := beq_eq_false_iff_ne.2 hy
      clear hr hE
      go_enter Tryz.func208, Tryz.ntmps208
      go_wp2_with (go_at_call 177; refine Hc.out.mono ?_; rintro e w1 ⟨rfl, hg1, hr1⟩)
      go_ret2
      exact ⟨.err 7, ⟨HP.out, by decide⟩, hg1, rfl⟩
end Go.Proofs.YtaagllbcmgnbnaaGreatDoor
/- How words are read: op. -/
namespace Go.Proofs.YtaagllbcmgnbnaaGreatDoor
open Go.RowKit Go.Shelf
set_option linter.unusedVariables false
set_option maxRecDepth 100000
theorem gput {w w1 : World} {r : Option Nat} (h : w.grownBy w1 r) {b : Nat} (hb : w.heap.size ≤ b) (u0 u1 u2 : Value) : w.grownBy (((w1.setCell ⟨b, 0, none⟩ u0).setCell ⟨b, 1, none⟩ u1).setCell ⟨b, 2, none⟩ u2) r := gset (gset (gset h hb _) hb _) hb _
theorem RB.put {w : World} {R G m b : Nat} {ws : List (List UInt8)} (h : RB w R G ws m) (hR : b ≠ R) (hG : b ≠ G) (u0 u1 u2 : Value) : RB (((w.setCell ⟨b, 0, none⟩ u0).setCell ⟨b, 1, none⟩ u1).setCell ⟨b, 2, none⟩ u2) R G ws m := ((h.set hR hG _).set hR hG _).set hR hG _

set_option maxHeartbeats 800000 in
/-- op, where no block follows, or it cannot be. -/
theorem op_any (N : Nat) (IH : ListC N) (x : List UInt8) (ws : List (List UInt8)) (d m R G : Nat) (w : World) (hN : ws.length ≤ N) (hd : d ≤ 6) (hm : m ≤ 128) (hW : WW (x :: ws)) (hs : ¬ (x = shutW ∧ 0 < d))
    (hr : RB w R G ws m) (hE : Env w) (hR : 8 ≤ R) :
    Calls Tryz.prog 178 #[.pointer (some ⟨R, 0, none⟩), .string (ba x), .int .i64 d] w fun e w' => ∃ res, OPP d x ws m res ∧ w.grownBy w' (some R) ∧ ORes R G w w' e res := by
  have hx := hW.2 x (by simp)
  have hb0 : Below w.heap.size w (w.alloc (.cells #[.int .i64 0, .int .i64 0, .slice none 0 0] 171)) := (Below.refl _ _).alloc (Nat.le_refl _) _
  have Hc := hidR (opOf_any (ba x) (w.alloc (.cells #[.int .i64 0, .int .i64 0, .slice none 0 0] 171)) (by show (ba x).size ≤ 512; rw [← L_len, L_ba]; exact hx.2) (by rw [L_ba]; exact hx.1) (hE.low hb0))
  rw [L_ba] at Hc
  have hRl := hr.lt
  have hGl := hr.2.1
  have HR := hidR hr
  have HE := hidR hE
  have HWW := hidR hW
  have HH := hidR IH
  clear hr hE hW IH hx
  cases ho : opW x with
  | none =>
    have HP := hidR (PL.bad hs ho ws m)
    rw [ho] at Hc
    clear ho hs
    go_enter Tryz.func178, Tryz.ntmps178
    go_wp2_with fail
    refine Hc.out.mono ?_
    rintro e w1 ⟨he, hb1⟩
    obtain rfl := he
    have h6 := ((BlkO.new w 0 0 (.slice none 0 0)).step hb1).step ((Below.refl w1.heap.size w1).alloc (Nat.le_refl _) (.cells #[.int .i64 0, .int .i64 0, .slice none 0 0] 171))
    have hg1 := galloc (gbel (galloc (World.grownBy.refl w (some R)) _) hb1) (.cells #[.int .i64 0, .int .i64 0, .slice none 0 0] 171)
    obtain ⟨c0, c1, c2⟩ := h6.cells
    obtain ⟨f0, f1, f2⟩ := h6.free
    have H6 := hidR h6
    have HG := hidR hg1
    clear h6 hg1 hb1
    go_wp2
    exact bodyPost_ret ((H6.out.put 0 0 (.slice none 0 0)).ret (t := 6) (u := 7) rfl rfl) rfl ⟨.err 7, ⟨HP.out, by decide⟩, gput HG.out (Nat.le_refl _) _ _ _, rfl⟩
  | some kn =>
    obtain ⟨k, n⟩ := kn
    rw [ho] at Hc
    have HX := hidR ho
    clear ho hs
    by_cases hm8 : m = 128
    · subst hm8
      have HP := hidR (PL.full HX.out d ws)
      go_enter Tryz.func178, Tryz.ntmps178
      go_wp2_with fail
      refine Hc.out.mono ?_
      rintro e w1 ⟨he, hb1⟩
      obtain rfl := he
      have h6 := ((BlkO.new w 0 0 (.slice none 0 0)).step hb1).step ((Below.refl w1.heap.size w1).alloc (Nat.le_refl _) (.cells #[.int .i64 k, .int .i64 n, .slice none 0 0] 171))
      have hg1 := galloc (gbel (galloc (World.grownBy.refl w (some R)) _) hb1) (.cells #[.int .i64 k, .int .i64 n, .slice none 0 0] 171)
      have hr1 := ((HR.out.below hb0).below hb1).below ((Below.refl w1.heap.size w1).alloc (Nat.le_refl _) (.cells #[.int .i64 k, .int .i64 n, .slice none 0 0] 171))
      obtain ⟨c0, c1, c2⟩ := h6.cells
      obtain ⟨f0, f1, f2⟩ := h6.free
      obtain ⟨r1, r2⟩ := hr1.cell1
      have H6 := hidR h6
      have HG := hidR hg1
      clear h6 hg1 hb1 hr1
      go_wp2
      exact bodyPost_ret ((H6.out.put 0 0 (.slice none 0 0)).ret (t := 6) (u := 7) rfl rfl) rfl ⟨.err 2, ⟨HP.out, by decide⟩, gput HG.out (Nat.le_refl _) _ _ _, rfl⟩
    · have hmi : ((m : Int) == 128) = false := beq_eq_false_iff_ne.2 (by omega)
      have hm0 : (0 : Int) ≤ m := by omega
      have hm1 : (m : Int) < 128 := by omega
      cases hk : hasB k with
      | false =>
        have Hh := hidR (fun W => hasB_any k W)
        rw [hk] at Hh
        have HP := hidR (fun r (h : PL d ws (m + 1) r) => PL.one HX.out hk (m := m) hm8 h)
        clear hk
        go_enter Tryz.func178, Tryz.ntmps178
        go_wp2_with fail
        refine Hc.out.mono ?_
        rintro e w1 ⟨he, hb1⟩
        obtain rfl := he
        have h6 := ((BlkO.new w 0 0 (.slice none 0 0)).step hb1).step ((Below.refl w1.heap.size w1).alloc (Nat.le_refl _) (.cells #[.int .i64 k, .int .i64 n, .slice none 0 0] 171))
        have h8 := BlkO.new w1 k n (.slice none 0 0)
        have hg1 := galloc (gbel (galloc (World.grownBy.refl w (some R)) _) hb1) (.cells #[.int .i64 k, .int .i64 n, .slice none 0 0] 171)
        have hr1 := ((HR.out.below hb0).below hb1).below ((Below.refl w1.heap.size w1).alloc (Nat.le_refl _) (.cells #[.int .i64 k, .int .i64 n, .slice none 0 0] 171))
        have hs1 : w.heap.size + 1 ≤ w1.heap.size := by have := hb1.size; simpa using this
        obtain ⟨r1, r2⟩ := hr1.cell1
        have H6 := hidR (h6.set (b' := R) (q := 1) (by omega) (.int .i64 ((m + 1 : Nat) : Int)))
        have H8 := hidR (h8.set (b' := R) (q := 1) (by omega) (.int .i64 ((m + 1 : Nat) : Int)))
        have HG := hidR (gsetR (q := 1) hg1 (.int .i64 ((m + 1 : Nat) : Int)))
        have HR1 := hidR (rb_many hr1 (m + 1))
        rw [show ((m + 1 : Nat) : Int) = (m : Int) + 1 by omega] at H6 H8 HG HR1
        obtain ⟨c0, c1, c2⟩ := H6.out.cells
        obtain ⟨f0, f1, f2⟩ := H6.out.free
        obtain ⟨d0, d1, d2⟩ := H8.out.cells
        clear h6 h8 hg1 hb1 hr1
        go_wp2_with (go_at_call 207; refine (Hh.out _).mono ?_; rintro e w' ⟨rfl, rfl⟩)
        exact bodyPost_ret ((H6.out.put k n (.slice none 0 0)).ret (t := 6) (u := 7) rfl rfl) rfl ⟨.ok k n .nil ws (m + 1), ⟨HP.out, by omega, by omega, [], rfl⟩, gput HG.out (Nat.le_refl _) _ _ _, _, rfl, OwnF.nil _ _, HR1.out.put (by omega) (by omega) _ _ _⟩
      | true =>
        have Hh := hidR (fun W => hasB_any k W)
        rw [hk] at Hh
        have HK := hidR hk
        clear hk
        go_enter Tryz.func178, Tryz.ntmps178
        go_wp2_with fail
        refine Hc.out.mono ?_
        rintro e w1 ⟨he, hb1⟩
        obtain rfl := he
        have h6 := ((BlkO.new w 0 0 (.slice none 0 0)).step hb1).step ((Below.refl w1.heap.size w1).alloc (Nat.le_refl _) (.cells #[.int .i64 k, .int .i64 n, .slice none 0 0] 171))
        have h8 := BlkO.new w1 k n (.slice none 0 0)
        have hg1 := galloc (gbel (galloc (World.grownBy.refl w (some R)) _) hb1) (.cells #[.int .i64 k, .int .i64 n, .slice none 0 0] 171)
        have hr1 := ((HR.out.below hb0).below hb1).below ((Below.refl w1.heap.size w1).alloc (Nat.le_refl _) (.cells #[.int .i64 k, .int .i64 n, .slice none 0 0] 171))
        have hs1 : w.heap.size + 1 ≤ w1.heap.size := by have := hb1.size; simpa using this
        obtain ⟨r1, r2⟩ := hr1.cell1
        have H6 := hidR (h6.set (b' := R) (q := 1) (by omega) (.int .i64 ((m + 1 : Nat) : Int)))
        have H8 := hidR (h8.set (b' := R) (q := 1) (by omega) (.int .i64 ((m + 1 : Nat) : Int)))
        have HG := hidR (gsetR (q := 1) hg1 (.int .i64 ((m + 1 : Nat) : Int)))
        have HR1 := hidR (rb_many hr1 (m + 1))
        rw [show ((m + 1 : Nat) : Int) = (m : Int) + 1 by omega] at H6 H8 HG HR1
        obtain ⟨W3, hW3⟩ : ∃ W3, (w1.alloc (.cells #[.int .i64 k, .int .i64 n, .slice none 0 0] 171)).setCell ⟨R, 1, none⟩ (.int .i64 ((m : Int) + 1)) = W3 := ⟨_, rfl⟩
        have hs3 : W3.heap.size = w1.heap.size + 1 := by rw [← hW3]; simp [World.setCell]
        obtain ⟨c0, c1, c2⟩ := H6.out.cells
        obtain ⟨f0, f1, f2⟩ := H6.out.free
        obtain ⟨d0, d1, d2⟩ := H8.out.cells
        clear h6 h8 hg1 hb1 hr1
        have HW3 := hidR hW3
        clear hW3
        have hdm : (d : Int) ≤ 6 := by omega
        go_wp2_with (go_at_call 207; refine (Hh.out _).mono ?_; rintro e w' ⟨rfl, rfl⟩)
        rw [HW3.out] at H6 H8 HG HR1 ⊢
        have hE3 := HE.out.grown HG.out hR
        refine (block_any N HH.out x k n ws d m R G W3 hN hd (by omega) HWW.out.tail HX.out HK.out HR1.out hE3 hR).mono ?_
        rintro e w2 ⟨res, hop, hg2, hres⟩
        have h6 := H6.out.grown hg2 (by omega)
        have h8 := H8.out.grown hg2 (by omega)
        have hg3 := HG.out.trans hg2
        have hs2 := hg2.size
        clear c0 c1 c2 f0 f1 f2 d0 d1 d2 r1 r2
        cases res with
        | err c =>
          obtain rfl := hres
          have hc0 := hop.2
          have hci : (c == 0) = false := beq_eq_false_iff_ne.2 hc0
          have HP := hidR hop.1
          have H6' := hidR h6
          have HG3 := hidR hg3
          obtain ⟨c0, c1, c2⟩ := h6.cells
          obtain ⟨f0, f1, f2⟩ := h6.free
          clear hop h6 h8 hg3 hg2
          go_wp2
          exact bodyPost_ret ((H6'.out.put 0 0 (.slice none 0 0)).ret (t := 6) (u := 7) rfl rfl) rfl ⟨.err c, ⟨HP.out, hc0⟩, gput HG3.out (Nat.le_refl _) _ _ _, rfl⟩
        | ok k' n' b ws' m' =>
          obtain ⟨rfl, rfl, v, rfl, hown, hr2⟩ := hres
          obtain ⟨a, cap, rfl⟩ := hown.len
          have HP := hidR hop
          have H6' := hidR (h6.set (b' := w1.heap.size) (q := 2) (by omega) (.slice a b.len cap))
          have H8' := hidR (h8.put2 (.slice a b.len cap))
          have HG3 := hidR (gset (b := w1.heap.size) (q := 2) hg3 (by omega) (.slice a b.len cap))
          have HO := hidR hown
          have HR2 := hidR (hr2.set (b := w1.heap.size) (q := 2) (by omega) (by omega) (.slice a b.len cap))
          obtain ⟨c0, c1, c2⟩ := H6'.out.cells
          obtain ⟨f0, f1, f2⟩ := H6'.out.free
          obtain ⟨d0, d1, d2⟩ := H8'.out.cells
          obtain ⟨p0, p1, p2⟩ := h8.cells
          obtain ⟨q0, q1, q2⟩ := h8.free
          clear hop h6 h8 hg3 hg2 hown hr2
          go_wp2
          exact bodyPost_ret ((H6'.out.put k' n' (.slice a b.len cap)).ret (t := 6) (u := 7) rfl rfl) rfl ⟨.ok k' n' b ws' m', HP.out, gput HG3.out (Nat.le_refl _) _ _ _, _, rfl, (HO.out.keep (fun j hj hlt => by rw [Below.heap_setCell _ _ _ _ (by show j ≠ w.heap.size; omega), Below.heap_setCell _ _ _ _ (by show j ≠ w.heap.size; omega), Below.heap_setCell _ _ _ _ (by show j ≠ w.heap.size; omega), Below.heap_setCell _ _ _ _ (by show j ≠ w1.heap.size; omega)])).lower (by omega), HR2.out.put (by omega) (by omega) _ _ _⟩
end Go.Proofs.YtaagllbcmgnbnaaGreatDoor
/- How words are read: list, and Parse. -/
namespace Go.Proofs.YtaagllbcmgnbnaaGreatDoor
open Go.RowKit Go.Shelf
set_option linter.unusedVariables false
set_option maxRecDepth 100000

/-- Where list has come to: acc told, ws left, behind m ops. -/
structure LL (R G d : Nat) (ws0 : List (List UInt8)) (m0 : Nat) (w : World) (ws : List (List UInt8)) (m : Nat) (v : Value) (wr : World) : Prop where
  own : ∃ acc, OwnF w.heap.size wr v acc ∧ acc.len ≤ m ∧ ∀ r, PL d ws m r → PL d ws0 m0 (r.pre acc)
  grown : w.grownBy wr (some R)
  rb : RB wr R G ws m
  env : Env wr
  ww : WW ws
  many : m ≤ 128
set_option maxHeartbeats 1600000 in
theorem list_all : ∀ N, ListC N := by
  intro N
  induction N with
  | zero => intro ws d m R G w h; omega
  | succ N IH =>
    intro ws0 d m0 R G w hN hd hm0 hW0 hr0 hE0 hR
    have HH := hidR IH
    have hstart := hidR (LL.mk (R := R) (G := G) (d := d) (ws0 := ws0) (m0 := m0) (w := w) (v := .slice none 0 0) ⟨.nil, OwnF.nil _ _, by simp [Fo.len], fun r hr => by rw [Rs.pre_nil]; exact hr⟩ (World.grownBy.refl w _) hr0 hE0 hW0 hm0)
    obtain ⟨i0, hi, hz0, hz1, hz2⟩ := info_parts Tryz.infoOp
    have hRl := hr0.lt
    have hGl := hr0.2.1
    have hdi : (0 : Int) ≤ d := by omega
    clear IH hr0 hE0 hW0
    go_enter Tryz.func154, Tryz.ntmps154
    go_wp2
    go_loopg [6] ws0.length (fun gf v wr => ∃ (ws : List (List UInt8)) (m : Nat), ws.length = gf ∧ gf ≤ N ∧ LL R G d ws0 m0 w ws m v wr)
    case atStart => exact ⟨ws0, m0, rfl, by omega, hstart.out⟩
    case round =>
      obtain ⟨ws, m, hlen, hgN, hLL⟩ := hrel
      have HL := hidR hLL
      cases ws with
      | nil =>
        have Hc := hidR (next_nil R G m wr hLL.rb)
        obtain ⟨acc, hown, hal, hpl⟩ := hLL.own
        obtain ⟨a, cap, hv⟩ := hown.len
        have HO := hidR hown
        by_cases hd0 : d = 0
        · subst hd0
          have HP := hidR (hpl _ (PL.end0 m))
          subst hv
          clear hLL hpl hown hlen
          go_wp2_with (go_at_call 177; refine Hc.out.mono ?_; rintro e w1 ⟨rfl, rfl⟩)
          go_ret2
          refine ⟨_, HP.out, HL.out.grown, _, rfl, ?_, HL.out.rb⟩
          rw [Fo.app_nil]
          exact HO.out
        · have hd1 : (0 : Int) < d := by omega
          have HP := hidR (hpl _ (PL.endB (d := d) (by omega) m))
          subst hv
          clear hLL hpl hown hlen
          go_wp2_with (go_at_call 177; refine Hc.out.mono ?_; rintro e w1 ⟨rfl, rfl⟩)
          go_ret2
          exact ⟨_, HP.out, HL.out.grown, rfl, by decide⟩
      | cons x ws =>
        simp only [List.length_cons] at hlen
        have hwl := hLL.ww.1
        simp only [List.length_cons] at hwl
        have Hc := hidR (next_cons R G m x ws wr hLL.rb (by omega))
        obtain ⟨acc, hown, hal, hpl⟩ := hLL.own
        obtain ⟨a, cap, hv⟩ := hown.len
        have HO := hidR hown
        have HPL := hidR hpl
        by_cases hsh : x = shutW ∧ 0 < d
        · obtain ⟨rfl, hd0⟩ := hsh
          have hd1 : (0 : Int) < d := by omega
          have hx1 : (shutW == [93]) = true := by decide
          have HP := hidR (hpl _ (PL.shut hd0 ws m))
          subst hv
          clear hLL hpl hown hlen
          go_wp2_with (go_at_call 177; refine Hc.out.mono ?_; rintro e w1 ⟨rfl, hg1, hr1⟩)
          go_ret2
          refine ⟨_, HP.out, HL.out.grown.trans hg1, _, rfl, ?_, hr1⟩
          rw [Fo.app_nil]
          exact HO.out.keep (fun k hk hlt => hg1.block k hlt (fun e => by injection e; omega))
        · have HSH := hidR hsh
          subst hv
          clear hLL hpl hown hsh
          have hcl : ((x == [93]) = true ∧ (d : Int) ≤ 0) ∨ (x == [93]) = false := by
            by_cases hx : x = shutW
            · left
              refine ⟨by rw [hx]; decide, ?_⟩
              by_cases h0 : d = 0
              · omega
              · exact absurd ⟨hx, by omega⟩ HSH.out
            · exact .inr (beq_eq_false_iff_ne.2 hx)
          have Hop := hidR (fun w1 (hg1 : wr.grownBy w1 (some R)) (hr1 : RB w1 R G ws m) => op_any N HH.out x ws d m R G w1 (by omega) hd HL.out.many HL.out.ww HSH.out hr1 (HL.out.env.grown hg1 hR) hR)
          rcases hcl with ⟨hx1, hd1⟩ | hx1
          all_goals
            go_wp2_with (go_at_call 177; refine Hc.out.mono ?_; rintro e w1 ⟨rfl, hg1, hr1⟩)
            refine (Hop.out w1 hg1 hr1).mono ?_
            rintro e w2 ⟨res, hop, hg2, hres⟩
            have hs1 := hg1.size
            have hs2 := hg2.size
            have hs0 := HL.out.grown.size
            cases res with
            | err c =>
              obtain rfl := hres
              have hc0 := hop.2
              have hci : (c == 0) = false := beq_eq_false_iff_ne.2 hc0
              have HP := hidR (HPL.out _ hop.1)
              have HG := hidR ((HL.out.grown.trans hg1).trans hg2)
              clear hop hg1 hg2 hr1
              go_wp2
              go_ret2
              exact ⟨_, HP.out, galloc HG.out _, rfl, hc0⟩
            | ok k n b ws' m' =>
              obtain ⟨v, rfl, hown, hr2⟩ := hres
              obtain ⟨hop1, hop2, hop3, u, hu⟩ := hop
              obtain ⟨a2, cap2, rfl⟩ := hown.len
              have HV := hidR hown
              have HP := hidR hop1
              have HU := hidR hu
              have HR2 := hidR hr2
              have HG := hidR (hg1.trans hg2)
              have HO2 := hidR (HO.out.keep (w' := w2) (fun j hj hlt => (hg1.trans hg2).block j hlt (fun e => by injection e; omega)))
              obtain ⟨l, hol, hrl⟩ := HO2.out
              have hll := hrl.len
              have hol' := hidR hol
              have hrl' := hidR hrl
              have Hll := hidR hll
              have hub : ∀ j, (Value.slice a acc.len cap).ownBlock = some j → j < wr.heap.size := by
                intro j hj
                obtain ⟨l', ho', _⟩ := HO.out
                exact (ho'.lt j hj).2
              have HUB := hidR hub
              have hl1 : l.length + 1 ≤ 129 := by have := HL.out.many; omega
              clear hop1 hu hown hr2 hol hrl hll hub hg1 hg2 hr1
              have hb3 := ((Below.refl w2.heap.size w2).alloc (Nat.le_refl _) (.cells #[.int .i64 k, .int .i64 n, .slice a2 b.len cap2] 171)).alloc (by simp) (.cells #[.int .i64 k, .int .i64 n, .slice a2 b.len cap2] 171)
              have H3 := hidR hb3
              clear hb3
              go_wp2_with (at_builtin; refine wpList_append_own_at _ rfl _ _ 53 rfl w.heap.size 171 i0 _ 3 40 Tryz.underlying53 hi hz0 hz1 hz2 rfl (by decide) (.slice a acc.len cap) l.length (flatO l) rfl (owns_belowL hol'.out H3.out) ⟨w2.heap.size + 1, 0, none⟩ 1 1 [.int .i64 k, .int .i64 n, .slice a2 b.len cap2] rfl rfl ?cN (op_cells _ _ _ _ _) ?c3 ?c4 ?c5 ?_)
              case cN => exact news3 (by have := new3 (w2.alloc (.cells #[.int .i64 k, .int .i64 n, .slice a2 b.len cap2] 171)) (.int .i64 k) (.int .i64 n) (.slice a2 b.len cap2) 171; simpa using this)
              case c3 => unfold maxLen; omega
              case c4 => omega
              case c5 => simp; omega
              intro v3 w3 hown3 hgrow3 _ hat3
              have hin : FS (QX w.heap.size (.slice a acc.len cap)) ((w2.alloc (.cells #[.int .i64 k, .int .i64 n, .slice a2 b.len cap2] 171)).alloc (.cells #[.int .i64 k, .int .i64 n, .slice a2 b.len cap2] 171)) (.slice a2 b.len cap2) b := by
                refine inner_fs HV.out.fs (fun j hj hlt => H3.out.block j hlt) (by omega) (fun j hj => ?_)
                have := HUB.out j hj
                omega
              have hnew := OwnF.snoc (owns_belowL hol'.out H3.out) (rows_below hrl'.out H3.out) hin hown3 hgrow3 (by simpa using hat3)
              have hgn : w.grownBy w3 (some R) := by
                have hg3 := (HL.out.grown.trans HG.out).trans (grownBy_belowL H3.out (some R))
                refine ⟨hgrow3.os.trans hg3.os, hgrow3.tape.trans hg3.tape, hgrow3.output.trans hg3.output, Nat.le_trans hg3.size hgrow3.size, fun j hj hne => (hgrow3.block j (by simp; omega) (fun e => ?_)).trans (hg3.block j hj hne)⟩
                have := own_rowL hol'.out j e.symm
                omega
              have hob : ∀ j, j < w.heap.size → w3.heap[j]? = w2.heap[j]? := fun j hj => (hgrow3.block j (by simp; omega) (fun e => by have := own_rowL hol'.out j e.symm; omega)).trans (H3.out.block j (by omega))
              have hrn : RB w3 R G ws' m' := HR2.out.keep (hob R hRl) (hob G hGl) (by have := hgrow3.size; simp at this; omega)
              have hwn : WW ws' := by have := HL.out.ww.tail; rw [HU.out] at this; exact this.suffix
              have hen : Env w3 := (HL.out.env.grown HG.out hR).of_blocks (fun j hj => hob j (by have := HL.out.env.size; omega)) (by have := hgrow3.size; simp at this; omega)
              have hln : ws'.length ≤ ws.length := by rw [HU.out]; simp
              have HF := hidR (LL.mk (R := R) (G := G) (d := d) (ws0 := ws0) (m0 := m0) (w := w) ⟨_, hnew, by rw [Fo.len_app]; simp only [Fo.len]; omega, fun r hr => by rw [← Rs.pre_pre]; exact HPL.out _ (HP.out r hr)⟩ hgn hrn hen hwn hop2)
              clear hown3 hgrow3 hat3 hin hnew hgn hob hrn hwn hen
              go_wp2
              go_roundg ws'.length
              case measure => omega
              case rel => exact ⟨ws', m', rfl, by omega, HF.out⟩

/-! ### Parse -/
theorem rb_new {w1 : World} {base : Nat} {v : Value} {ws : List (List UInt8)} (h : OwnS w1 base v (ws.map ba)) (h7 : 8 ≤ w1.heap.size) : ∃ G, RB (w1.alloc (.cells #[v, .int .i64 0] 237)) w1.heap.size G ws 0 := by
  rcases h.2 with ⟨rfl, h0⟩ | ⟨g, cap, cur, rfl, _, hb, hc, _, _, ht⟩
  · have hw : ws = [] := by simpa using h0
    subst hw
    exact ⟨0, by omega, by simp, none, 0, 0, heap_alloc_new w1 _, by simp, .inl rfl, fun i x hx => by simp at hx⟩
  · have hg : g < w1.heap.size := (Array.getElem?_eq_some_iff.1 hb).1
    refine ⟨g, by omega, by simp; omega, some ⟨g, 0, none⟩, cap, 0, ?_, by simpa using hc, .inr rfl, fun i x hx => ?_⟩
    · have := heap_alloc_new w1 (.cells #[.slice (some ⟨g, 0, none⟩) (ws.map ba).length cap, .int .i64 0] 237)
      rw [this]
      simp
    · rw [World.cell?_of_block (a := ⟨g, 0 + i, none⟩) (Below.heap_alloc _ _ _ hg)]
      exact strsAt_of_block hb ht i x hx
set_option maxHeartbeats 400000 in
theorem parse_any (s : ByteArray) (w : World) (hs : s.size ≤ 140737488351232) (hE : Env w) :
    Calls Tryz.prog 119 #[.string s] w fun e w' => ∃ r, Prog s r ∧ Below w.heap.size w w' ∧ PRes w w' e r := by
  by_cases h5 : 512 < s.size
  · have h5i : (512 : Int) < (s.size : Int) := by omega
    have HP : Hid (Prog s (.err 2)) := by unfold Hid Prog; rw [if_pos h5]
    go_enter Tryz.func119, Tryz.ntmps119
    go_wp2
    go_ret2
    exact ⟨_, HP.out, Below.refl _ _, rfl, by decide⟩
  · have h5i : ¬ (512 : Int) < (s.size : Int) := by omega
    have h5j : (s.size : Int) ≤ 512 := by omega
    have Hf := hidR (fields_any s w (by omega))
    have hww := ww_split s (by omega)
    have HE := hidR hE
    clear hE
    go_enter Tryz.func119, Tryz.ntmps119
    go_wp2_with (go_at_call 152; refine Hf.out.mono ?_)
    rintro e w1 v rfl hown hb1
    have hE1 := HE.out.low hb1
    obtain ⟨G, hrb⟩ := rb_new (ws := splitG [] (L s)) hown hE1.size
    have hb2 := (Below.refl w1.heap.size w1).alloc (Nat.le_refl _) (.cells #[v, .int .i64 0] 237)
    have hL := list_all _ (splitG [] (L s)) 0 0 w1.heap.size G _ (Nat.lt_succ_self _) (by omega) (by omega) hww hrb (hE1.low hb2) hE1.size
    rw [show ((0 : Nat) : Int) = 0 from rfl] at hL
    have HL := hidR hL
    have HB := hidR (hb1.trans (hb2.mono hb1.size))
    have hs1 := hb1.size
    obtain ⟨a, cap, rfl⟩ := OwnS.shape hown
    clear hL hrb hown hb1 hb2 hE1
    go_wp2_with (go_at_call 154; refine HL.out.mono ?_)
    rintro e w3 ⟨r, hp, hg, hres⟩
    have hbel := HB.out.grown hg (by simp; omega) (fun k hk => by injection hk; omega)
    have HP : Hid (Prog s r) := by unfold Hid Prog; rw [if_neg h5]; exact hp
    have HBE := hidR hbel
    clear hp hbel hg
    cases r with
    | err c =>
      obtain ⟨rfl, hc0⟩ := hres
      go_wp2
      go_ret2
      exact ⟨_, HP.out, HBE.out, rfl, hc0⟩
    | ok f ws' m' =>
      obtain ⟨v, rfl, hown, _⟩ := hres
      have HO := hidR hown
      obtain ⟨a', cap', rfl⟩ := hown.len
      clear hown
      go_wp2
      go_ret2
      exact ⟨_, HP.out, HBE.out, _, rfl, HO.out.lower (by simp; omega)⟩
end Go.Proofs.YtaagllbcmgnbnaaGreatDoor
