/- Texts laid together: WLaw, JWf, NPro, NMap. -/
import Derived.Test.YtclcgakfmcofaaaGreatDoorMW32
import Derived.Test.YtclcgakfmcofaaaGreatDoorMW9
import Derived.Test.YtclcgakfmcofaaaGreatDoorMW24
import Derived.Test.YtclcgakfmcofaaaGreatDoorMW28
import Derived.Test.YtclcgakfmcofaaaGreatDoorMW31
import Derived.Test.YtclcgakfmcofaaaGreatDoorMW15
import Derived.Test.YtclcgakfmcofaaaGreatDoorMW30
import Derived.Test.YtclcgakfmcofaaaGreatDoorMW23
import Derived.Test.YtclcgakfmcofaaaGreatDoorMW26
set_option linter.unusedVariables false
set_option maxRecDepth 100000
set_option maxHeartbeats 3200000
namespace Go.Proofs.YtclcgakfmcofaaaGreatDoor
open Go.RowKit
theorem keysOk_mem {l : List Rc} : aU l = true ↔ ∀ x ∈ l, x.1.2.size ≤ 64 := by
 unfold aU
 rw [List.all_eq_true]
 constructor
 ·intro h x hx; have := h x hx; simpa using this
 ·intro h x hx; simpa using h x hx
theorem iv {agg bound : Int} {l : List Rc} (hw : aJ agg bound = true) (hk : aU l = true) (hwf : Wf l) (hl : l.length ≤ 1536) : ed agg bound (aB agg bound.toNat l).1 := by
 have hr := hY agg bound.toNat l
 have hc : ∀ r ∈ (aB agg bound.toNat l).1, OkC agg bound r.2 := fun r hr' => okC_fold l hw hwf _ _ (dc hr hr')
 refine ⟨?_, hc, oe agg bound.toNat hwf⟩
 unfold ce
 rw [hw, Bool.true_and, Bool.and_eq_true, Bool.and_eq_true, decide_eq_true_eq, decide_eq_true_eq, List.all_eq_true]
 refine ⟨⟨by have := len_fold agg bound.toNat l; omega, fun r hr' => ?_⟩, hr⟩
 rw [Bool.and_eq_true, decide_eq_true_eq]
 refine ⟨?_, (hc r hr').1⟩
 have h1 := dc hr hr'
 obtain ⟨y, hy, e⟩ := (keys_gat (am agg bound.toNat) (eo agg l) r.1).1 (by unfold aB at h1; rw [h1]; rfl)
 unfold eo at hy
 obtain ⟨z, hz, rfl⟩ := List.mem_map.1 hy
 rw [← e]
 exact keysOk_mem.1 hk z hz
theorem fineJ_wf {agg bound : Int} {r : List Rw} (h : ed agg bound r) : WfRs r := fun x hx => by
 obtain ⟨h1, h2, h3⟩ := h.each hx
 exact ⟨⟨h3.1, by omega⟩, h2.2.1, by have := h2.2.2; omega⟩
theorem keysJ_app {a b : List Rc} (ha : aU a = true) (hb : aU b = true) : aU (a ++ b) = true := by
 unfold aU at *
 rw [List.all_append, ha, hb]
 rfl
theorem rTake_wr {s : ByteArray} (h : (cz s).2.2 = 0) : Wr (cz s).1 := by
 unfold cz at h ⊢
 split at h
 ·next h0 => exact absurd h h0
 ·next h0 =>
  rw [if_neg h0]
  split at h
  ·next h1 => exact absurd h h1
  ·next h1 =>
   rw [if_neg h1]
   obtain ⟨q, e1, q1, q2, q3, q4⟩ := kgood (s := s) (by simpa using h0)
   obtain ⟨p, e2, p1, p2, p3⟩ := mC (s := from' s (bp s).2.1) (by simpa using h1)
   exact ⟨q4.1, q4.2, by simp only; omega, p3.1, p3.2⟩
theorem allG_wf : ∀ (n : Nat) (acc : List Rc) (s : ByteArray), Wf acc → Wf (dY n acc s).1
 | 0, acc, s, h => by unfold dY; split; exact h; intro x hx; simp at hx
 | n + 1, acc, s, h => by
  unfold dY
  split
  ·exact h
  ·simp only
   split
   ·intro x hx; simp at hx
   ·next h1 =>
    refine allG_wf n _ _ fun x hx => ?_
    rcases List.mem_append.1 hx with hx | hx
    ·exact h x hx
    ·simp at hx
     subst hx
     exact rTake_wr (by simpa using h1)
theorem allOf_wf (s : ByteArray) : Wf (bi s).1 := by
 unfold bi
 split
 ·intro x hx; simp at hx
 ·exact allG_wf 64 [] s (fun x hx => by simp at hx)
theorem jZ {c : aX} {i : Int} {k : Nat} (h : cU c = true) (hk : bX c.splits i = some k) : cV c [i] = (lu (c.splits.getD k s0), 0) := by
 unfold cV
 rw [if_pos h]
 unfold aR
 rw [hk]
 simp [aR]
theorem ft (c : aX) (i : Int) : Wf (dH c i) ∧ (dH c i).length ≤ 64 := by
 have no : Wf ([] : List Rc) ∧ ([] : List Rc).length ≤ 64 := ⟨fun x hx => by simp at hx, by simp⟩
 unfold dH
 cases hc : cU c with
 | false => unfold cV; rw [hc]; exact no
 | true =>
  cases hk : bX c.splits i with
  | none => unfold cV aR; rw [hc, hk]; exact no
  | some k => rw [jZ hc hk]; exact ⟨allOf_wf _, oL _⟩
theorem foldRes_err (agg bound : Int) (l : List Rc) : (lq agg bound l = true → (fe agg bound l).2 ≠ 1) ∧ (lq agg bound l = false → (fe agg bound l).2 = 1) := by
 unfold fe lq
 cases h : (aJ agg bound && decide (l.length ≤ 1536) && aU l)
 ·exact ⟨fun h => (by cases h), fun _ => (by simp)⟩
 ·refine ⟨fun _ => ?_, fun h => (by cases h)⟩
  rw [if_pos rfl]
  rcases gat_err agg bound.toNat (eo agg l) with h0 | h0
  ·have : (aB agg bound.toNat l).2 = 0 := h0
   rw [fin_ok this, this]; decide
  ·have : (aB agg bound.toNat l).2 = 11 := h0
   rw [fS (by rw [this]; decide), this]; decide
theorem lmayFold_any (agg bound : Int) (v : Value) (l : List Rc) (w : World) (h : RS w v l) (hwf : Wf l) (hl : l.length ≤ 100000) :
  Calls Tryz.prog 128 #[.int .i64 agg, .int .i64 bound, v] w (jI w (lq agg bound l)) := by
 have HF := ae (mA agg bound v l w h hwf hl)
 obtain ⟨h1, h2⟩ := foldRes_err agg bound l
 obtain ⟨⟨F1, F2⟩, hF⟩ : ∃ F, fe agg bound l = F := ⟨_, rfl⟩
 rw [hF] at HF h1 h2
 simp only at h1 h2
 obtain ⟨a, c, rfl, -⟩ := h
 cases hm : lq agg bound l with
 | true =>
  have hne : (F2 != 1) = true := by simpa using h1 hm
  clear h1 h2 hm hF
  go_enter Tryz.func128, Tryz.ntmps128
  go_wp2_with (go_at_call 87; refine HF.out.mono ?_; rintro e W1 ⟨⟨v1, rfl, ho1⟩, hb1⟩)
  go_ret
  exact ⟨rfl, hb1⟩
 | false =>
  have he := h2 hm
  subst he
  clear h1 h2 hm hF
  go_enter Tryz.func128, Tryz.ntmps128
  go_wp2_with (go_at_call 87; refine HF.out.mono ?_; rintro e W1 ⟨⟨v1, rfl, ho1⟩, hb1⟩)
  go_ret
  exact ⟨rfl, hb1⟩
theorem run_zero (f : Fo) : (cE f = 0 → (df f ((0, ⟨#[]⟩), 0) 0).1 = 0 ∨ (df f ((0, ⟨#[]⟩), 0) 0).1 = 10) ∧ (cE f ≠ 0 → (df f ((0, ⟨#[]⟩), 0) 0).1 = cE f) := by
 refine ⟨fun h => ?_, fun h => by rw [runR_1 h]⟩
 cases f with
 | nil => exact .inl (by rw [show (0 : Int) = ((0 : Nat) : Int) from rfl, runR_4 (q := 0) h (by decide) (by omega) rfl]; rfl)
 | cons k n b r => exact .inr (by rw [show (0 : Int) = ((0 : Nat) : Int) from rfl, runR_3 (q := 0) h (by decide) (by omega) (ev_no rfl)])
def ProR (w : World) (s : ByteArray) (e : Ending) (w' : World) : Prop := ∃ r, cG s r ∧ Below w.heap.size w w' ∧ match r with
 | .err c => e = .returned (.tuple #[.slice none 0 0, .int .i64 c]) ∧ c ≠ 0
 | .ok f _ _ => (cE f ≠ 0 → e = .returned (.tuple #[.slice none 0 0, .int .i64 (cE f)])) ∧ (cE f = 0 → ∃ v, e = .returned (.tuple #[v, .int .i64 0]) ∧ FS QA w' v f)
theorem program_any (s : ByteArray) (w : World) (hs : s.size ≤ 140737488351232) (hE : iu w) : Calls Tryz.prog 127 #[.string s] w (ProR w s) := by
 have HPA := ae (pg s w hs hE)
 go_enter Tryz.func127, Tryz.ntmps127
 go_wp2_with fail
 refine HPA.out.mono ?_
 rintro e W1 ⟨r, hr, hb1, hres⟩
 have HR := ae hr
 have HB1 := ae hb1
 cases r with
 | err c =>
  obtain ⟨rfl, hc0⟩ := hres
  have hbe : (c != 0) = true := by simpa using hc0
  have hc := ae hc0
  clear hr hb1 HPA
  go_wp2
  go_ret2
  exact ⟨_, HR.out, HB1.out, rfl, hc.out⟩
 | ok f ws m =>
  obtain ⟨v1, rfl, hown⟩ := hres
  obtain ⟨hMay, hWN, hln, hWB⟩ := ir hr
  have hfs : FS QA W1 v1 f := hown.fs.arg
  obtain ⟨a1, c1, rfl⟩ := hfs.val
  have HFS := ae hfs
  have HRU := ae (run_any f _ W1 ((0, ⟨#[]⟩), 0) 0 hfs hln hWB (by decide))
  obtain ⟨z1, z2⟩ := run_zero f
  obtain ⟨⟨T1, T2, T3⟩, hT⟩ : ∃ T, df f ((0, ⟨#[]⟩), 0) 0 = T := ⟨_, rfl⟩
  unfold kJ at HRU
  rw [hT] at HRU z1 z2
  simp only at HRU z1 z2
  clear hr hb1 HPA hfs hown hMay hWN hln hWB hT
  by_cases hc : cE f = 0
  ·have z1 := z1 hc
   have HC := ae hc
   clear z2 hc
   rcases z1 with rfl | rfl
   ·go_wp2_with (go_at_call 129; refine HRU.out.mono ?_; rintro e W2 ⟨v2, rfl, ho2, hb2⟩)
    go_ret2
    exact ⟨_, HR.out, ag HB1.out hb2, fun h => absurd HC.out h, fun _ => ⟨_, rfl, HFS.out.below hb2⟩⟩
   ·go_wp2_with (go_at_call 129; refine HRU.out.mono ?_; rintro e W2 ⟨v2, rfl, ho2, hb2⟩)
    go_ret2
    exact ⟨_, HR.out, ag HB1.out hb2, fun h => absurd HC.out h, fun _ => ⟨_, rfl, HFS.out.below hb2⟩⟩
  ·have z2 := z2 hc
   have HC := ae hc
   have h10 : cE f ≠ 10 := by rcases cE_vals f with h | h | h <;> rw [h] <;> decide
   rw [← z2] at h10 hc
   have HZ := ae z2
   have hb1' : (T1 != 0) = true := by simpa using hc
   have hb2' : (T1 != 10) = true := by simpa using h10
   clear z1 z2 hc h10
   go_wp2_with (go_at_call 129; refine HRU.out.mono ?_; rintro e W2 ⟨v2, rfl, ho2, hb2⟩)
   go_ret2
   exact ⟨_, HR.out, ag HB1.out hb2, fun _ => by rw [← HZ.out]; rfl, fun h => absurd h HC.out⟩
theorem mayM_of {agg bound fu : Int} {l : List Rc} (h1 : 0 ≤ fu ∧ fu ≤ 2000) (h2 : l.length ≤ 64) : gd agg bound fu l = lq agg bound l := by
 unfold gd lq
 rw [decide_eq_true h1, decide_eq_true h2, decide_eq_true (show l.length ≤ 1536 by omega)]
 simp
theorem lmap_any (j : Jb) (a5 : Option Addr) (n5 c5 : Nat) (u : Value) (l : List Rc) (w : World) (h : RS w u l) (hwf : Wf l) (hl : l.length ≤ 100000) (hp : j.prog.size ≤ 140737488351232) (hf : -9223372036854775808 ≤ j.fuel ∧ j.fuel ≤ 9223372036854775807) (hE : iu w) :
  Calls Tryz.prog 85 #[cJ j (.slice a5 n5 c5), u] w fun e w' => (∃ v', e = .returned (.tuple #[v', .int .i64 (ap j l).2]) ∧ bq w' w.heap.size v' (ap j l).1) ∧ Below w.heap.size w w' := by
 have hst : ∀ (W : World) (o : Obj), Below W.heap.size W (W.alloc o) := fun W o => (Below.refl _ _).alloc (Nat.le_refl _) _
 obtain ⟨W0, hW0⟩ : ∃ W0 : World, W0 = w.alloc (.cells #[.int .i64 j.id, .string j.prog, .int .i64 j.agg, .int .i64 j.bound, .int .i64 j.fuel, .slice a5 n5 c5, .int .i64 j.parts] 37) := ⟨_, rfl⟩
 have hb0 : Below w.heap.size w W0 := by rw [hW0]; exact hst _ _
 have B0 : fp W0 w.heap.size j (.slice a5 n5 c5) := by rw [hW0]; exact fp.new w _ _
 have h0 := h.below hb0
 obtain ⟨⟨M1, M2⟩, hM⟩ : ∃ M, M = ap j l := ⟨_, rfl⟩
 rw [← hM]
 have HP := ae (fun r (hr : cG j.prog r) => hM.trans (oX hr l))
 have HPA := ae (program_any j.prog W0 hp (hE.low hb0))
 have HB0 := ae hb0
 have HF0 := ae B0
 have HW := ae hW0.symm
 have HS := ae h0
 have HST := ae hst
 obtain ⟨r0, r1, r2, r3, r4, -, -⟩ := B0.cells
 obtain ⟨ju, cu, rfl, hsh⟩ := h0
 clear hM hW0 B0 h hst hb0 hE
 go_enter Tryz.func85, Tryz.ntmps85
 go_wp2_with fail
 rw [HW.out]
 refine HPA.out.mono ?_
 rintro e W1 ⟨r, hr, hb1, hres⟩
 have HR := ae (HP.out r hr)
 have HB1 := ae hb1
 cases r with
 | err c =>
  obtain ⟨rfl, hc0⟩ := hres
  have hbe : (c != 0) = true := by simpa using hc0
  rw [mapP_err] at HR
  clear hr hb1 HPA HP
  go_wp2
  go_ret2
  exact ⟨⟨_, by rw [(Prod.mk.inj HR.out).2]; rfl, by rw [(Prod.mk.inj HR.out).1]; exact World.ownsRow_nil _ _ _ _⟩, ag HB0.out HB1.out⟩
 | ok f ws m =>
  obtain ⟨hres1, hres2⟩ := hres
  obtain ⟨hMay, hWN, hln, hWB⟩ := ir hr
  by_cases hcE : cE f = 0
  ·obtain ⟨v1, rfl, hfs⟩ := hres2 hcE
   obtain ⟨a1, c1, rfl⟩ := hfs.val
   have HFS := ae hfs
   have HCE := ae hcE
   have HNO := ae (fun (hm : gd j.agg j.bound j.fuel l = false) => Prod.mk.inj (HR.out.trans (oW hcE hm)))
   have HYES := ae (fun (hm : gd j.agg j.bound j.fuel l = true) => HR.out.trans (mapP_run hcE hm))
   have HFA := ae (show ∀ W, Below W1.heap.size W1 W → W.cell? ⟨w.heap.size, 2, none⟩ = some (.int .i64 j.agg) ∧ W.cell? ⟨w.heap.size, 3, none⟩ = some (.int .i64 j.bound) ∧ W.cell? ⟨w.heap.size, 4, none⟩ = some (.int .i64 j.fuel) from fun W hW => by
    obtain ⟨-, -, z2, z3, z4, -, -⟩ := ((HF0.out.below hb1).below hW).cells
    exact ⟨z2, z3, z4⟩)
   obtain ⟨z2, z3, z4⟩ := HFA.out W1 (Below.refl _ _)
   have HMF := ae (lmayFold_any j.agg j.bound _ l W1 (HS.out.below hb1) hwf hl)
   clear hr hb1 HPA HP hfs r0 r1 r2 r3 r4 hcE hres1 hres2
   by_cases g1 : j.fuel < 0
   ·have HN := ae (HNO.out (by unfold gd; rw [decide_eq_false (show ¬ (0 ≤ j.fuel ∧ j.fuel ≤ 2000) by omega), Bool.false_and, Bool.and_false]))
    clear HNO HYES
    go_wp2
    go_ret2
    exact ⟨⟨_, by rw [HN.out.2]; rfl, by rw [HN.out.1]; exact World.ownsRow_nil _ _ _ _⟩, ag HB0.out HB1.out⟩
   ·by_cases g2 : 2000 < j.fuel
    ·have HN := ae (HNO.out (by unfold gd; rw [decide_eq_false (show ¬ (0 ≤ j.fuel ∧ j.fuel ≤ 2000) by omega), Bool.false_and, Bool.and_false]))
     clear HNO HYES
     go_wp2
     go_ret2
     exact ⟨⟨_, by rw [HN.out.2]; rfl, by rw [HN.out.1]; exact World.ownsRow_nil _ _ _ _⟩, ag HB0.out HB1.out⟩
    ·by_cases g3 : 64 < l.length
     ·have HN := ae (HNO.out (by unfold gd; rw [decide_eq_false (show ¬ (l.length ≤ 64) by omega), Bool.false_and, Bool.and_false, Bool.and_false]))
      have g3i : (64 : Int) < (l.length : Int) := by omega
      have g3d : decide ((64 : Int) < (l.length : Int)) = true := decide_eq_true g3i
      clear HNO HYES
      go_wp2
      go_ret2
      exact ⟨⟨_, by rw [HN.out.2]; rfl, by rw [HN.out.1]; exact World.ownsRow_nil _ _ _ _⟩, ag HB0.out HB1.out⟩
     ·have g3i : ¬ (64 : Int) < (l.length : Int) := by omega
      have g3d : decide ((64 : Int) < (l.length : Int)) = false := decide_eq_false g3i
      have hmm := mayM_of (agg := j.agg) (bound := j.bound) (fu := j.fuel) (l := l) (by omega) (by omega)
      rw [hmm] at HNO HYES
      cases g4 : lq j.agg j.bound l with
      | false =>
       have HN := ae (HNO.out g4)
       rw [g4] at HMF
       clear HNO HYES hmm g4
       go_wp2_with (go_at_call 128; refine HMF.out.mono ?_; rintro e W2 ⟨rfl, hb2⟩)
       go_ret2
       exact ⟨⟨_, by rw [HN.out.2]; rfl, by rw [HN.out.1]; exact World.ownsRow_nil _ _ _ _⟩, ag HB0.out (ag HB1.out hb2)⟩
      | true =>
       have HY := ae (HYES.out g4)
       rw [g4] at HMF
       clear HNO HYES hmm g4
       go_wp2_with (go_at_call 128; refine HMF.out.mono ?_; rintro e W2 ⟨rfl, hb2⟩)
       have HB3 := ae (ag HB1.out hb2)
       have HFW := ae (show ∀ W, Below W2.heap.size W2 W → W.cell? ⟨w.heap.size, 4, none⟩ = some (.int .i64 j.fuel) ∧ FS QA W (.slice a1 f.len c1) f ∧ Below W2.heap.size W2 W from fun W hW => by
        obtain ⟨-, -, -, -, y4, -, -⟩ := (HF0.out.below (ag HB3.out hW)).cells
        exact ⟨y4, HFS.out.below (ag hb2 hW), hW⟩)
       clear hb2 z2 z3 z4 g1 g2
       go_loopw [8, 47] (fun vo i wr => ∃ (k : Nat) (acc : List Rc), k ≤ l.length ∧ i = .int .i64 k ∧ Hid (iB f j.fuel (l.drop k) acc = (M1, M2)) ∧ acc.length ≤ 256 ∧ bq wr W2.heap.size vo acc ∧ Below W2.heap.size W2 wr) (fun _ i _ => l.length - (intOf i).toNat)
       case atStart => exact ⟨0, [], by omega, rfl, HY.out.symm, by simp, World.ownsRow_nil _ _ _ _, Below.refl _ _⟩
       case round =>
        rename World => w0
        obtain ⟨k, acc, hk, rfl, HO, hacc, ho, hbel⟩ := hrel
        obtain ⟨ao, co, rfl⟩ : ∃ a c, u8 = .slice a acc.length c := by
         obtain ⟨a, c, e, -⟩ := RS.own ho
         exact ⟨a, c, e⟩
        have HBEL := ae hbel
        by_cases hlt : k < l.length
        ·obtain ⟨⟨⟨xa, xb⟩, xv⟩, hx⟩ := ak hlt
         rcases hsh with hnil | ⟨b, off, rfl, hb, hat⟩
         ·rw [hnil] at hlt; simp at hlt
         have hki0 : (0 : Int) ≤ (k : Int) := by omega
         have hki : (k : Int) < (l.length : Int) := by omega
         have hbb : b < w0.heap.size := Nat.lt_of_lt_of_le hb (ag HB3.out hbel).size
         obtain ⟨c0, c1', c2⟩ := (hat.below (ag HB3.out hbel) hb) k _ hx
         simp only at c0 c1' c2
         obtain ⟨Wa, hWa⟩ : ∃ Wa : World, Wa = w0.alloc (.cells #[.int .i64 xa, .string xb, .int .i64 xv] 155) := ⟨_, rfl⟩
         have hba : Below w0.heap.size w0 Wa := by rw [hWa]; exact HST.out _ _
         have hnw : Wa.heap[w0.heap.size]? = some (.cells #[.int .i64 xa, .string xb, .int .i64 xv] 155 (0, 0)) := by rw [hWa]; exact heap_alloc_new w0 _
         obtain ⟨y4, yf, -⟩ := HFW.out Wa (ag hbel hba)
         have HRUN := ae (run_any f _ Wa ((xa, xb), xv) j.fuel yf hln hWB (by
          have := (hwf _ (List.mem_of_getElem? hx)).txt
          simp only at this ⊢
          omega))
         have h256 := lA f ((xa, xb), xv) j.fuel
         have hstep := HO.out
         rw [show l.drop k = ((xa, xb), xv) :: l.drop (k + 1) from by
          obtain ⟨q1, q2⟩ := List.getElem?_eq_some_iff.1 hx
          rw [List.drop_eq_getElem_cons q1, q2], oY] at hstep
         unfold kJ at HRUN
         obtain ⟨RR, hRR⟩ : ∃ RR, RR = df f ((xa, xb), xv) j.fuel := ⟨_, rfl⟩
         rw [← hRR] at HRUN hstep h256
         obtain ⟨er, lf, out⟩ := RR
         simp only at HRUN hstep h256
         have HOW := ae ho
         have HSTEP := ae hstep
         have HBA := ae hba
         have HWA := ae hWa.symm
         have n0 : Wa.cell? ⟨w0.heap.size, 0, none⟩ = some (.int .i64 xa) := by simp only [World.cell?, hnw]; rfl
         have n1 : Wa.cell? ⟨w0.heap.size, 1, none⟩ = some (.string xb) := by simp only [World.cell?, hnw]; rfl
         have n2 : Wa.cell? ⟨w0.heap.size, 2, none⟩ = some (.int .i64 xv) := by simp only [World.cell?, hnw]; rfl
         obtain ⟨y4', -, -⟩ := HFW.out w0 hbel
         have hjb := block_lt_of_cell y4'
         simp only at hjb
         clear hx hat ho hbel HO hstep hRR hWa hba hnw yf
         have HAPP := ae (fun (W5 : World) (v5 : Value) (hb5 : Below Wa.heap.size Wa W5) (ho5 : bq W5 Wa.heap.size v5 out) => by
          have hbV := ag HBA.out hb5
          have hbX := ag HBEL.out hbV
          obtain ⟨v8, W8, q1, q2, q3⟩ := iq 97 (HOW.out.below hbV) (RS.own ho5) (by omega) hbX.size
          exact (⟨v8, W8, q1, q2, hbX.grown q3 hbX.size (aW (HOW.out.below hbV))⟩ : ∃ v8 W8, (Builtin.append_ #[97, 97] 97 #[.slice ao acc.length co, v5]).run Tryz.prog W5 = .ok v8 W8 ∧ bq W8 W2.heap.size v8 (acc ++ out) ∧ Below W2.heap.size W2 W8))
         by_cases he : er = 0
         ·subst he
          have hS := HSTEP.out
          rw [if_neg (by simp)] at hS
          by_cases hbig : 256 < (acc ++ out).length
          ·rw [if_pos hbig] at hS
           have HN := ae (Prod.mk.inj hS)
           have hd : decide ((256 : Int) < ((acc ++ out).length : Int)) = true := decide_eq_true (by omega)
           have hd2 : decide ((256 : Int) < (acc.length : Int) + (out.length : Int)) = true := decide_eq_true (by rw [List.length_append] at hbig; omega)
           have hd3 : (256 : Int) < (acc.length : Int) + (out.length : Int) := by rw [List.length_append] at hbig; omega
           clear hS hbig HSTEP
           go_wp2_with (first
            | (go_at_call 129; rw [HWA.out]; refine HRUN.out.mono ?_; rintro e W5 ⟨v5, rfl, ho5, hb5⟩; obtain ⟨v8, W8, q1, q2, q3⟩ := HAPP.out _ _ hb5 ho5; obtain ⟨a6, c6, rfl⟩ : ∃ a c, v5 = .slice a out.length c := (by obtain ⟨a, c, e, -⟩ := RS.own ho5; exact ⟨a, c, e⟩); obtain ⟨a8, c8, rfl⟩ : ∃ a c, v8 = .slice a (acc ++ out).length c := (by obtain ⟨a, c, e, -⟩ := RS.own q2; exact ⟨a, c, e⟩); have U1 := ae q1; have Q2 := ae q2; have Q3 := ae q3; clear q1 q2 q3 ho5)
            | (at_builtin; refine wpList_append_run _ rfl _ _ _ rfl _ _ _ W8 rfl rfl U1.out ?_))
           go_ret2
           exact ⟨⟨_, by rw [← HN.out.2]; rfl, by rw [← HN.out.1]; exact World.ownsRow_nil _ _ _ _⟩, ag HB0.out (ag HB3.out Q3.out)⟩
          ·rw [if_neg hbig] at hS
           have HN := ae hS
           have hd : decide ((256 : Int) < ((acc ++ out).length : Int)) = false := decide_eq_false (by omega)
           have hle : (acc ++ out).length ≤ 256 := by omega
           have hd2 : decide ((256 : Int) < (acc.length : Int) + (out.length : Int)) = false := decide_eq_false (by rw [List.length_append] at hle; omega)
           have hd3 : ¬ (256 : Int) < (acc.length : Int) + (out.length : Int) := by rw [List.length_append] at hle; omega
           clear hS hbig HSTEP
           go_wp2_with (first
            | (go_at_call 129; rw [HWA.out]; refine HRUN.out.mono ?_; rintro e W5 ⟨v5, rfl, ho5, hb5⟩; obtain ⟨v8, W8, q1, q2, q3⟩ := HAPP.out _ _ hb5 ho5; obtain ⟨a6, c6, rfl⟩ : ∃ a c, v5 = .slice a out.length c := (by obtain ⟨a, c, e, -⟩ := RS.own ho5; exact ⟨a, c, e⟩); obtain ⟨a8, c8, rfl⟩ : ∃ a c, v8 = .slice a (acc ++ out).length c := (by obtain ⟨a, c, e, -⟩ := RS.own q2; exact ⟨a, c, e⟩); have U1 := ae q1; have Q2 := ae q2; have Q3 := ae q3; clear q1 q2 q3 ho5)
            | (at_builtin; refine wpList_append_run _ rfl _ _ _ rfl _ _ _ W8 rfl rfl U1.out ?_))
           refine ⟨⟨k + 1, acc ++ out, by omega, by go_num, HN.out, hle, by rw [← List.length_append]; exact Q2.out, Q3.out⟩, ?_⟩
           simp only [intOf]
           omega
         ·have hbe : (er != 0) = true := by simpa using he
          have hS := HSTEP.out
          rw [if_pos he] at hS
          have HN := ae (Prod.mk.inj hS)
          clear hS he HSTEP
          go_wp2_with (go_at_call 129; rw [HWA.out]; refine HRUN.out.mono ?_; rintro e W5 ⟨v5, rfl, ho5, hb5⟩; obtain ⟨a6, c6, rfl⟩ : ∃ a c, v5 = .slice a out.length c := (by obtain ⟨a, c, e, -⟩ := RS.own ho5; exact ⟨a, c, e⟩))
          go_ret2
          exact ⟨⟨_, by rw [← HN.out.2]; rfl, by rw [← HN.out.1]; exact World.ownsRow_nil _ _ _ _⟩, ag HB0.out (ag HB3.out (ag HBEL.out (ag HBA.out hb5)))⟩
        ·have hlt' : l.length ≤ k := by omega
         have hO := HO.out
         rw [mapL_end hlt'] at hO
         have HN := ae (Prod.mk.inj hO)
         have hlti : ¬ (k : Int) < (l.length : Int) := by omega
         clear hO HO
         go_wp2
         go_ret2
         exact ⟨⟨_, by rw [← HN.out.2]; rfl, by rw [← HN.out.1]; exact ho.down3 (ag HB0.out HB3.out).size⟩, ag HB0.out (ag HB3.out hbel)⟩
  ·have hres := hres1 hcE
   subst hres
   have hbe : (cE f != 0) = true := by simpa using hcE
   have HN := ae (Prod.mk.inj (HR.out.trans (oV hcE)))
   clear hr hb1 HPA HP hres1 hres2 r0 r1 r2 r3 r4 hcE
   go_wp2
   go_ret2
   exact ⟨⟨_, by rw [HN.out.2]; rfl, by rw [HN.out.1]; exact World.ownsRow_nil _ _ _ _⟩, ag HB0.out HB1.out⟩
end Go.Proofs.YtclcgakfmcofaaaGreatDoor
