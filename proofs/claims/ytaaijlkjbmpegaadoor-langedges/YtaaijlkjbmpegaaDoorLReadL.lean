/- How words are read: list, and Parse. -/
import Derived.Test.YtaaijlkjbmpegaaDoorLReadO
namespace Go.Proofs.YtaaijlkjbmpegaaDoor
open Go.RowKit Go.Shelf
set_option linter.unusedVariables false
set_option maxRecDepth 100000

/-- Where list has come to: acc told, ws left, behind m ops. -/
structure LL (R G d : Nat) (ws0 : List (List UInt8)) (m0 : Nat) (w : World) (ws : List (List UInt8)) (m : Nat) (v : Value) (wr : World) : Prop where
  own : ∃ acc, OwnF w.heap.size wr v acc ∧ acc.len ≤ m ∧ ∀ r, PL d ws m r → PL d ws0 m0 (r.pre acc)
  grown : w.grownBy wr (some R)
  rb : RB wr R G ws m
  env : Env wr
  ww : WW ws
  many : m ≤ 128
theorem ll_end {R G d : Nat} {ws0 ws : List (List UInt8)} {m0 m : Nat} {w wr : World} {v : Value} {r : Rs} {acc : Fo} (hr : PL d ws m r) (h : ∀ r, PL d ws m r → PL d ws0 m0 (r.pre acc)) : PL d ws0 m0 (r.pre acc) := h r hr
theorem hasGrown_lt {w w' : World} {r : Option Nat} (h : w.grownBy w' r) : w.heap.size ≤ w'.heap.size := h.size

set_option maxHeartbeats 1600000 in
theorem list_all : ∀ N, ListC N := by
  intro N
  induction N with
  | zero => intro ws d m R G w h; omega
  | succ N IH =>
    intro ws0 d m0 R G w hN hd hm0 hW0 hr0 hE0 hR
    have HH := hidR IH
    have hstart := hidR (LL.mk (R := R) (G := G) (d := d) (ws0 := ws0) (m0 := m0) (w := w) (v := .slice none 0 0) ⟨.nil, OwnF.nil _ _, by simp [Fo.len], fun r hr => by rw [Rs.pre_nil]; exact hr⟩ (World.grownBy.refl w _) hr0 hE0 hW0 hm0)
    obtain ⟨i0, hi, hz0, hz1, hz2⟩ := info_parts Tryd.infoOp
    have hRl := hr0.lt
    have hGl := hr0.2.1
    have hdi : (0 : Int) ≤ d := by omega
    clear IH hr0 hE0 hW0
    go_enter Tryd.func24, Tryd.ntmps24
    go_wp2
    go_loopg [6] ws0.length (fun gf v wr => ∃ (ws : List (List UInt8)) (m : Nat), ws.length = gf ∧ gf ≤ N ∧ LL R G d ws0 m0 w ws m v wr)
    case atStart => exact ⟨ws0, m0, rfl, by omega, hstart.out⟩
    case round =>
      obtain ⟨ws, m, hlen, hgN, hLL⟩ := hrel
      have HL := hidR hLL
      cases ws with
      | nil =>
        have Hc := hidR (next_nil R G m wr hLL.rb)
        obtain ⟨acc, hown, hal, hpl⟩ := hLL.own
        obtain ⟨a, cap, hv⟩ := hown.len
        have HO := hidR hown
        by_cases hd0 : d = 0
        · subst hd0
          have HP := hidR (hpl _ (PL.end0 m))
          subst hv
          clear hLL hpl hown hlen
          go_wp2_with (go_at_call 33; refine Hc.out.mono ?_; rintro e w1 ⟨rfl, rfl⟩)
          go_ret2
          refine ⟨_, HP.out, HL.out.grown, _, rfl, ?_, HL.out.rb⟩
          rw [Fo.app_nil]
          exact HO.out
        · have hd1 : (0 : Int) < d := by omega
          have HP := hidR (hpl _ (PL.endB (d := d) (by omega) m))
          subst hv
          clear hLL hpl hown hlen
          go_wp2_with (go_at_call 33; refine Hc.out.mono ?_; rintro e w1 ⟨rfl, rfl⟩)
          go_ret2
          exact ⟨_, HP.out, HL.out.grown, rfl, by decide⟩
      | cons x ws =>
        simp only [List.length_cons] at hlen
        have hwl := hLL.ww.1
        simp only [List.length_cons] at hwl
        have Hc := hidR (next_cons R G m x ws wr hLL.rb (by omega))
        obtain ⟨acc, hown, hal, hpl⟩ := hLL.own
        obtain ⟨a, cap, hv⟩ := hown.len
        have HO := hidR hown
        have HPL := hidR hpl
        by_cases hsh : x = shutW ∧ 0 < d
        · obtain ⟨rfl, hd0⟩ := hsh
          have hd1 : (0 : Int) < d := by omega
          have hx1 : (shutW == [93]) = true := by decide
          have HP := hidR (hpl _ (PL.shut hd0 ws m))
          subst hv
          clear hLL hpl hown hlen
          go_wp2_with (go_at_call 33; refine Hc.out.mono ?_; rintro e w1 ⟨rfl, hg1, hr1⟩)
          go_ret2
          refine ⟨_, HP.out, HL.out.grown.trans hg1, _, rfl, ?_, hr1⟩
          rw [Fo.app_nil]
          exact HO.out.keep (fun k hk hlt => hg1.block k hlt (fun e => by injection e; omega))
        · have HSH := hidR hsh
          subst hv
          clear hLL hpl hown hsh
          have hcl : ((x == [93]) = true ∧ (d : Int) ≤ 0) ∨ (x == [93]) = false := by
            by_cases hx : x = shutW
            · left
              refine ⟨by rw [hx]; decide, ?_⟩
              by_cases h0 : d = 0
              · omega
              · exact absurd ⟨hx, by omega⟩ HSH.out
            · exact .inr (beq_eq_false_iff_ne.2 hx)
          have Hop := hidR (fun w1 (hg1 : wr.grownBy w1 (some R)) (hr1 : RB w1 R G ws m) => op_any N HH.out x ws d m R G w1 (by omega) hd HL.out.many HL.out.ww HSH.out hr1 (HL.out.env.grown hg1 hR) hR)
          rcases hcl with ⟨hx1, hd1⟩ | hx1
          all_goals
            go_wp2_with (go_at_call 33; refine Hc.out.mono ?_; rintro e w1 ⟨rfl, hg1, hr1⟩)
            refine (Hop.out w1 hg1 hr1).mono ?_
            rintro e w2 ⟨res, hop, hg2, hres⟩
            have hs1 := hg1.size
            have hs2 := hg2.size
            have hs0 := HL.out.grown.size
            cases res with
            | err c =>
              obtain rfl := hres
              have hc0 := hop.2
              have hci : (c == 0) = false := beq_eq_false_iff_ne.2 hc0
              have HP := hidR (HPL.out _ hop.1)
              have HG := hidR ((HL.out.grown.trans hg1).trans hg2)
              clear hop hg1 hg2 hr1
              go_wp2
              go_ret2
              exact ⟨_, HP.out, galloc HG.out _, rfl, hc0⟩
            | ok k n b ws' m' =>
              obtain ⟨v, rfl, hown, hr2⟩ := hres
              obtain ⟨hop1, hop2, hop3, u, hu⟩ := hop
              obtain ⟨a2, cap2, rfl⟩ := hown.len
              have HV := hidR hown
              have HP := hidR hop1
              have HU := hidR hu
              have HR2 := hidR hr2
              have HG := hidR (hg1.trans hg2)
              have HO2 := hidR (HO.out.keep (w' := w2) (fun j hj hlt => (hg1.trans hg2).block j hlt (fun e => by injection e; omega)))
              obtain ⟨l, hol, hrl⟩ := HO2.out
              have hll := hrl.len
              have hol' := hidR hol
              have hrl' := hidR hrl
              have Hll := hidR hll
              have hub : ∀ j, (Value.slice a acc.len cap).ownBlock = some j → j < wr.heap.size := by
                intro j hj
                obtain ⟨l', ho', _⟩ := HO.out
                exact (ho'.lt j hj).2
              have HUB := hidR hub
              have hl1 : l.length + 1 ≤ 129 := by have := HL.out.many; omega
              clear hop1 hu hown hr2 hol hrl hll hub hg1 hg2 hr1
              have hb3 := ((Below.refl w2.heap.size w2).alloc (Nat.le_refl _) (.cells #[.int .i64 k, .int .i64 n, .slice a2 b.len cap2] 60)).alloc (by simp) (.cells #[.int .i64 k, .int .i64 n, .slice a2 b.len cap2] 60)
              have H3 := hidR hb3
              clear hb3
              go_wp2_with (at_builtin; refine wpList_append_own_at _ rfl _ _ 23 rfl w.heap.size 60 i0 _ 3 40 Tryd.underlying23 hi hz0 hz1 hz2 rfl (by decide) (.slice a acc.len cap) l.length (flatO l) rfl (owns_below hol'.out H3.out) ⟨w2.heap.size + 1, 0, none⟩ 1 1 [.int .i64 k, .int .i64 n, .slice a2 b.len cap2] rfl rfl ?cN (op_cells _ _ _ _ _) ?c3 ?c4 ?c5 ?_)
              case cN => exact news3 (by have := new3 (w2.alloc (.cells #[.int .i64 k, .int .i64 n, .slice a2 b.len cap2] 60)) (.int .i64 k) (.int .i64 n) (.slice a2 b.len cap2) 60; simpa using this)
              case c3 => unfold maxLen; omega
              case c4 => omega
              case c5 => simp; omega
              intro v3 w3 hown3 hgrow3 _ hat3
              have hin : FS (QX w.heap.size (.slice a acc.len cap)) ((w2.alloc (.cells #[.int .i64 k, .int .i64 n, .slice a2 b.len cap2] 60)).alloc (.cells #[.int .i64 k, .int .i64 n, .slice a2 b.len cap2] 60)) (.slice a2 b.len cap2) b := by
                refine inner_fs HV.out.fs (fun j hj hlt => H3.out.block j hlt) (by omega) (fun j hj => ?_)
                have := HUB.out j hj
                omega
              have hnew := OwnF.snoc (owns_below hol'.out H3.out) (rows_below hrl'.out H3.out) hin hown3 hgrow3 (by simpa using hat3)
              have hgn : w.grownBy w3 (some R) := by
                have hg3 := (HL.out.grown.trans HG.out).trans (grownBy_below H3.out (some R))
                refine ⟨hgrow3.os.trans hg3.os, hgrow3.tape.trans hg3.tape, hgrow3.output.trans hg3.output, Nat.le_trans hg3.size hgrow3.size, fun j hj hne => (hgrow3.block j (by simp; omega) (fun e => ?_)).trans (hg3.block j hj hne)⟩
                have := own_row hol'.out j e.symm
                omega
              have hob : ∀ j, j < w.heap.size → w3.heap[j]? = w2.heap[j]? := fun j hj => (hgrow3.block j (by simp; omega) (fun e => by have := own_row hol'.out j e.symm; omega)).trans (H3.out.block j (by omega))
              have hrn : RB w3 R G ws' m' := HR2.out.keep (hob R hRl) (hob G hGl) (by have := hgrow3.size; simp at this; omega)
              have hwn : WW ws' := by have := HL.out.ww.tail; rw [HU.out] at this; exact this.suffix
              have hen : Env w3 := (HL.out.env.grown HG.out hR).of_blocks (fun j hj => hob j (by have := HL.out.env.size; omega)) (by have := hgrow3.size; simp at this; omega)
              have hln : ws'.length ≤ ws.length := by rw [HU.out]; simp
              have HF := hidR (LL.mk (R := R) (G := G) (d := d) (ws0 := ws0) (m0 := m0) (w := w) ⟨_, hnew, by rw [Fo.len_app]; simp only [Fo.len]; omega, fun r hr => by rw [← Rs.pre_pre]; exact HPL.out _ (HP.out r hr)⟩ hgn hrn hen hwn hop2)
              clear hown3 hgrow3 hat3 hin hnew hgn hob hrn hwn hen
              go_wp2
              go_roundg ws'.length
              case measure => omega
              case rel => exact ⟨ws', m', rfl, by omega, HF.out⟩

/-! ### Parse -/
theorem ww_split (s : ByteArray) (hs : s.size ≤ 512) : WW (splitG [] (L s)) := by
  have hl := splitG_len (L s) []
  simp only [if_true, L_len] at hl
  refine ⟨by omega, fun x hx => ⟨(splitG_words _ [] (fun c hc => by cases hc) x hx).1, ?_⟩⟩
  have : ∀ (l acc : List UInt8), ∀ x ∈ splitG acc l, x.length ≤ acc.length + l.length := by
    intro l
    induction l with
    | nil => intro acc x hx; simp only [splitG] at hx; split at hx <;> simp_all
    | cons c r ih =>
      intro acc x hx
      rw [splitG] at hx
      split at hx
      · split at hx
        · have := ih [] x hx; simp at this ⊢; omega
        · rcases List.mem_cons.1 hx with rfl | hx
          · simp
          · have := ih [] x hx; simp at this ⊢; omega
      · have := ih _ x hx; simp at this ⊢; omega
  have := this (L s) [] x hx
  rw [L_len] at this
  simp at this
  omega
/-- What Parse tells. -/
def PRes (w w' : World) (e : Ending) : Rs → Prop
  | .err c => e = .returned (.tuple #[.slice none 0 0, .int .i64 c]) ∧ c ≠ 0
  | .ok f _ _ => ∃ v, e = .returned (.tuple #[v, .int .i64 0]) ∧ OwnF w.heap.size w' v f
/-- Which program a text is. -/
def Prog (s : ByteArray) (r : Rs) : Prop := if 512 < s.size then r = .err 2 else PL 0 (splitG [] (L s)) 0 r
theorem Prog.unique {s : ByteArray} {r r' : Rs} (h : Prog s r) (h' : Prog s r') : r = r' := by
  unfold Prog at h h'
  split at h
  · rename_i hs
    rw [if_pos hs] at h'
    rw [h, h']
  · rename_i hs
    rw [if_neg hs] at h'
    exact h.unique h'
theorem rb_new {w1 : World} {base : Nat} {v : Value} {ws : List (List UInt8)} (h : OwnS w1 base v (ws.map ba)) (h7 : 7 ≤ w1.heap.size) : ∃ G, RB (w1.alloc (.cells #[v, .int .i64 0] 52)) w1.heap.size G ws 0 := by
  rcases h.2 with ⟨rfl, h0⟩ | ⟨g, cap, cur, rfl, _, hb, hc, _, _, ht⟩
  · have hw : ws = [] := by simpa using h0
    subst hw
    exact ⟨0, by omega, by simp, none, 0, 0, heap_alloc_new w1 _, by simp, .inl rfl, fun i x hx => by simp at hx⟩
  · have hg : g < w1.heap.size := (Array.getElem?_eq_some_iff.1 hb).1
    refine ⟨g, by omega, by simp; omega, some ⟨g, 0, none⟩, cap, 0, ?_, by simpa using hc, .inr rfl, fun i x hx => ?_⟩
    · have := heap_alloc_new w1 (.cells #[.slice (some ⟨g, 0, none⟩) (ws.map ba).length cap, .int .i64 0] 52)
      rw [this]
      simp
    · rw [World.cell?_of_block (a := ⟨g, 0 + i, none⟩) (Below.heap_alloc _ _ _ hg)]
      exact strsAt_of_block hb ht i x hx
set_option maxHeartbeats 400000 in
theorem parse_any (s : ByteArray) (w : World) (hs : s.size ≤ 140737488351232) (hE : Env w) :
    Calls Tryd.prog 8 #[.string s] w fun e w' => ∃ r, Prog s r ∧ Below w.heap.size w w' ∧ PRes w w' e r := by
  by_cases h5 : 512 < s.size
  · have h5i : (512 : Int) < (s.size : Int) := by omega
    have HP : Hid (Prog s (.err 2)) := by unfold Hid Prog; rw [if_pos h5]
    go_enter Tryd.func8, Tryd.ntmps8
    go_wp2
    go_ret2
    exact ⟨_, HP.out, Below.refl _ _, rfl, by decide⟩
  · have h5i : ¬ (512 : Int) < (s.size : Int) := by omega
    have h5j : (s.size : Int) ≤ 512 := by omega
    have Hf := hidR (fields_any s w (by omega))
    have hww := ww_split s (by omega)
    have HE := hidR hE
    clear hE
    go_enter Tryd.func8, Tryd.ntmps8
    go_wp2_with (go_at_call 22; refine Hf.out.mono ?_)
    rintro e w1 v rfl hown hb1
    have hE1 := HE.out.low hb1
    obtain ⟨G, hrb⟩ := rb_new (ws := splitG [] (L s)) hown hE1.size
    have hb2 := (Below.refl w1.heap.size w1).alloc (Nat.le_refl _) (.cells #[v, .int .i64 0] 52)
    have hL := list_all _ (splitG [] (L s)) 0 0 w1.heap.size G _ (Nat.lt_succ_self _) (by omega) (by omega) hww hrb (hE1.low hb2) hE1.size
    rw [show ((0 : Nat) : Int) = 0 from rfl] at hL
    have HL := hidR hL
    have HB := hidR (hb1.trans (hb2.mono hb1.size))
    have hs1 := hb1.size
    obtain ⟨a, cap, rfl⟩ := OwnS.shape hown
    clear hL hrb hown hb1 hb2 hE1
    go_wp2_with (go_at_call 24; refine HL.out.mono ?_)
    rintro e w3 ⟨r, hp, hg, hres⟩
    have hbel := HB.out.grown hg (by simp; omega) (fun k hk => by injection hk; omega)
    have HP : Hid (Prog s r) := by unfold Hid Prog; rw [if_neg h5]; exact hp
    have HBE := hidR hbel
    clear hp hbel hg
    cases r with
    | err c =>
      obtain ⟨rfl, hc0⟩ := hres
      go_wp2
      go_ret2
      exact ⟨_, HP.out, HBE.out, rfl, hc0⟩
    | ok f ws' m' =>
      obtain ⟨v, rfl, hown, _⟩ := hres
      have HO := hidR hown
      obtain ⟨a', cap', rfl⟩ := hown.len
      clear hown
      go_wp2
      go_ret2
      exact ⟨_, HP.out, HBE.out, _, rfl, HO.out.lower (by simp; omega)⟩
end Go.Proofs.YtaaijlkjbmpegaaDoor
