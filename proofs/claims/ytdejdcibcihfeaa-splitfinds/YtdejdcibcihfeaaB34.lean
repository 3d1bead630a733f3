/- split's own: areSplits, Check. -/
import Derived.Test.YtdejdcibcihfeaaB33
namespace Go.Proofs.Ytdejdcibcihfeaa
open Go.RowKit
set_option linter.unusedVariables false
set_option maxRecDepth 100000

def spT (n : Int) (s : Sp) : Bool := decide ((allOf s.2.1).2 = 0) && (decide (0 < s.2.2.length) && risL 1 n s.2.2)
def idsL (L : List Sp) : List Int := L.map (fun s => s.1)
def splitsB (n : Int) (L : List Sp) : Bool := decide (L.length ≤ 6) && (L.all (spT n) && risL 1 1048576 (idsL L))
theorem splitsB_long {n : Int} {L : List Sp} (h : ¬ L.length ≤ 6) : splitsB n L = false := by unfold splitsB; rw [decide_eq_false h]; rfl
theorem splitsB_bad {n : Int} {L : List Sp} {k : Nat} {s : Sp} (hs : L[k]? = some s) (h : spT n s = false) : splitsB n L = false := by
  have : L.all (spT n) = false := by
    rw [List.all_eq_false]
    exact ⟨s, List.mem_of_getElem? hs, by rw [h]; simp⟩
  unfold splitsB
  rw [this, Bool.false_and, Bool.and_false]
theorem splitsB_all {n : Int} {L : List Sp} (h1 : L.length ≤ 6) (h : ∀ s ∈ L, spT n s = true) : splitsB n L = risL 1 1048576 (idsL L) := by
  unfold splitsB
  rw [decide_eq_true h1, List.all_eq_true.2 h, Bool.true_and, Bool.true_and]
theorem cfgB_parts (c : Cfg) : cfgB c = (decide (1 ≤ c.sites ∧ c.sites ≤ 3) && (waitsB c.again c.over && splitsB c.sites c.splits)) := by
  rw [Bool.eq_iff_iff]
  constructor
  · intro h
    obtain ⟨hh, hs, hr⟩ := cfgB_of h
    obtain ⟨h1, h2, h3, h4, h5⟩ := headB_of hh
    have ha : ∀ s ∈ c.splits, spT c.sites s = true := fun s hm => by
      obtain ⟨-, g1, g2, g3⟩ := spB_of (hs s hm)
      unfold spT
      rw [decide_eq_true g1, decide_eq_true g2, g3]
      rfl
    have hi : risL 1 1048576 (idsL c.splits) = true := by
      unfold risL idsL
      rw [Bool.and_eq_true, List.all_eq_true, decide_eq_true_eq, List.pairwise_map]
      refine ⟨fun x hx => ?_, hr⟩
      obtain ⟨s, hm, rfl⟩ := List.mem_map.1 hx
      exact decide_eq_true (spB_of (hs s hm)).1
    rw [splitsB_all h2 ha, hi]
    unfold waitsB
    rw [decide_eq_true h1, decide_eq_true h3, decide_eq_true h4, decide_eq_true h5]
    rfl
  · intro h
    unfold waitsB splitsB at h
    simp only [Bool.and_eq_true, decide_eq_true_eq, List.all_eq_true] at h
    obtain ⟨h1, ⟨h3, h4, h5⟩, h2, hs, hr⟩ := h
    obtain ⟨hr1, hr2⟩ := risL_of hr
    unfold idsL at hr1 hr2
    rw [List.pairwise_map] at hr2
    unfold cfgB
    rw [headB_mk ⟨h1, h2, h3, h4, h5⟩, decide_eq_true hr2, List.all_eq_true.2 (fun s hm => by
      have h := hs s hm
      unfold spT at h
      simp only [Bool.and_eq_true, decide_eq_true_eq] at h
      obtain ⟨g1, g2, g3⟩ := h
      unfold spB
      rw [decide_eq_true (hr1 _ (List.mem_map.2 ⟨s, hm, rfl⟩)), decide_eq_true g1, decide_eq_true g2, g3]
      rfl)]
    rfl
theorem ids_take {L : List Sp} {k : Nat} {s : Sp} (h : L[k]? = some s) : idsL (L.take (k + 1)) = idsL (L.take k) ++ [s.1] := by
  rw [List.take_add_one, h]
  simp [idsL]
theorem spT_step {n : Int} {L : List Sp} {k : Nat} {s : Sp} (h : L[k]? = some s) (ha : ∀ x ∈ L.take k, spT n x = true) (hs : spT n s = true) : ∀ x ∈ L.take (k + 1), spT n x = true := fun x hx => by
  rw [List.take_add_one, h] at hx
  rcases List.mem_append.1 hx with hx | hx
  · exact ha x hx
  · simp at hx; subst hx; exact hs
set_option maxHeartbeats 800000 in
theorem areSplits_any (n : Int) (v : Value) (L : List Sp) (w : World) (h : PS w v L) (hlen : L.length ≤ 17592186043904) (hwf : ∀ s ∈ L, WfSp s) :
    Calls Try.prog 25 #[v, .int .i64 n] w fun e w' => e = .returned (.bool (splitsB n L)) ∧ Below w.heap.size w w' := by
  have HWF := hidM hwf
  clear hwf
  obtain ⟨va, vc, rfl, hsh⟩ := h
  by_cases h6 : L.length ≤ 6
  · have d6 : decide ((6 : Int) < (L.length : Int)) = false := decide_eq_false (by omega)
    have HL6 := hidM h6
    clear h6
    go_enter Try.func25, Try.ntmps25
    go_wp2
    go_loopw [5, 15] (fun u i wr => ∃ k : Nat, k ≤ L.length ∧ i = .int .i64 k ∧ Hid (∀ x ∈ L.take k, spT n x = true) ∧ OwnN wr w.heap.size u (idsL (L.take k)) ∧ Below w.heap.size w wr) (fun _ i _ => L.length - (intOf i).toNat)
    case atStart => exact ⟨0, by omega, rfl, (fun x hx => by simp at hx), World.ownsRow_nil _ _ _ _, Below.refl _ _⟩
    case round =>
      rename World => w0
      obtain ⟨k, hk, rfl, HO, hown, hbel⟩ := hrel
      by_cases hlt : k < L.length
      · obtain ⟨⟨si, st, sl⟩, hy⟩ := getSome hlt
        have hwf := HWF.out _ (List.mem_of_getElem? hy)
        have htx : st.size ≤ 140737488351232 := hwf.txt
        have hsl : sl.length ≤ 17592186043904 := hwf.len
        rcases hsh with hnil | ⟨b, off, rfl, hb, hat⟩
        · rw [hnil] at hlt; simp at hlt
        have hat0 := hat.below hbel hb
        obtain ⟨c0, c1, sa, sc, c2, ns, hcap⟩ := hat0 k _ hy
        simp only at c0 c1 c2 ns hcap
        have hki0 : (0 : Int) ≤ (k : Int) := by omega
        have hki : (k : Int) < (L.length : Int) := by omega
        obtain ⟨Wa, hWa⟩ : ∃ Wa : World, Wa = w0.alloc (.cells #[.int .i64 si, .string st, .slice sa sl.length sc] 35) := ⟨_, rfl⟩
        have hba : Below w0.heap.size w0 Wa := by rw [hWa]; exact (Below.refl _ _).alloc (Nat.le_refl _) _
        have BP : BlkP Wa w0.heap.size (.int .i64 si) (.string st) (.slice sa sl.length sc) := by rw [hWa]; exact BlkP.new w0 _ _ _
        have HA := hidM hWa.symm
        have HAL := hidM (fun W => (recall_any st W (by unfold maxLen; omega)).mono (R' := fun e w' => (∃ v', e = .returned (.tuple #[v', .int .i64 (allOf st).2]) ∧ ∃ a n k, v' = .slice a n k) ∧ Below W.heap.size W w') (fun e w' ⟨v', q1, q2, q3⟩ => by
          obtain ⟨a, k, e2⟩ := q2.shape
          exact ⟨⟨v', q1, a, _, k, e2⟩, q3⟩))
        have HRIS := hidM (fun (W : World) (hn : NS W (.slice sa sl.length sc) sl) => doRise_any n _ sl W hn hsl)
        have HFA := hidM (show ∀ W1, Below Wa.heap.size Wa W1 → W1.cell? ⟨w0.heap.size, 0, none⟩ = some (.int .i64 si) ∧ W1.cell? ⟨w0.heap.size, 1, none⟩ = some (.string st) ∧ W1.cell? ⟨w0.heap.size, 2, none⟩ = some (.slice sa sl.length sc) ∧ NS W1 (.slice sa sl.length sc) sl ∧ OwnN W1 w.heap.size u5 (idsL (L.take k)) ∧ Below w.heap.size w W1 from fun W1 h1 => by
          obtain ⟨y0, y1, y2⟩ := (BP.below h1).cells
          exact ⟨y0, y1, y2, (ns.below hba).below h1, (hown.below hba).below h1, nxt hbel (nxt hba h1)⟩)
        obtain ⟨x0, x1, x2⟩ := BP.cells
        by_cases he : (allOf st).2 = 0
        · have hbe : ((allOf st).2 != 0) = false := by rw [he]; rfl
          rw [he] at HAL
          by_cases hs0 : sl.length = 0
          · have HF := hidM (splitsB_bad (n := n) hy (by unfold spT; rw [decide_eq_false (show ¬ 0 < sl.length by omega), Bool.false_and, Bool.and_false]))
            have hl0 : ((sl.length : Int) == 0) = true := by rw [hs0]; rfl
            clear hs0 hWa hba BP hat hat0 ns hcap hwf hbel HO hy hown
            go_wp2_with (first | (go_at_call 29; rw [HA.out]; refine (HAL.out _).mono ?_; rintro e W1 ⟨⟨v1, rfl, a1, n1, k1, rfl⟩, hb1⟩; obtain ⟨d0, d1, d2, nsS, ho1, hb2⟩ := HFA.out W1 hb1))
            go_ret
            exact ⟨by rw [HF.out]; rfl, hb2⟩
          · have hl0 : ((sl.length : Int) == 0) = false := beq_eq_false_iff_ne.2 (by omega)
            cases hr : risL 1 n sl with
            | false =>
              have HF := hidM (splitsB_bad (n := n) hy (by unfold spT; simp only; rw [hr, Bool.and_false, Bool.and_false]))
              rw [hr] at HRIS
              clear hWa hba BP hat hat0 ns hcap hwf hbel HO hy hown
              go_wp2_with (first
                | (go_at_call 29; rw [HA.out]; refine (HAL.out _).mono ?_; rintro e W1 ⟨⟨v1, rfl, a1, n1, k1, rfl⟩, hb1⟩; obtain ⟨d0, d1, d2, nsS, ho1, hb2⟩ := HFA.out W1 hb1)
                | (go_at_call 31; refine (HRIS.out _ nsS).mono ?_; rintro e W2 ⟨rfl, hw2⟩; subst W2))
              go_ret
              exact ⟨by rw [HF.out]; rfl, hb2⟩
            | true =>
              have HO2 := hidM (spT_step (n := n) hy HO.out (by unfold spT; simp only; rw [decide_eq_true he, decide_eq_true (show 0 < sl.length by omega), hr]; rfl))
              rw [hr] at HRIS
              have HAP := hidM (show ∀ (W : World), OwnN W w.heap.size u5 (idsL (L.take k)) → Below w.heap.size w W → ∃ v4 W4, (Builtin.append_ #[25, 25] 25 #[u5, .slice (some ⟨W.heap.size, 0, none⟩) 1 1]).run Try.prog (W.alloc (.cells #[.int .i64 si] 3)) = .ok v4 W4 ∧ OwnN W4 w.heap.size v4 (idsL (L.take (k + 1))) ∧ Below w.heap.size w W4 from fun W ho hb => by
                have hsz := hb.size
                have hst : Below W.heap.size W (W.alloc (.cells #[.int .i64 si] 3)) := (Below.refl _ _).alloc (Nat.le_refl _) _
                have hns : NS (W.alloc (.cells #[.int .i64 si] 3)) (.slice (some ⟨W.heap.size, 0, none⟩) 1 1) [si] := ⟨_, 1, rfl, .inr ⟨W.heap.size, 0, rfl, by simp, fun i x hx => by
                  match i, hx with
                  | 0, hx => simp at hx; subst hx; unfold World.cell?; rw [heap_alloc_new W _]; rfl⟩⟩
                obtain ⟨v4, W4, q1, q2, q3, q4⟩ := append_is 25 (ho.below hst) hns (by simp [idsL]; omega) (by have := hst.size; omega)
                exact ⟨v4, W4, q1, by rw [ids_take hy]; exact q2, (hb.trans (hst.mono (by omega))).grown q3 (by have := hst.size; omega) (own_rowN (ho.below hst))⟩)
              clear hWa hba BP hat hat0 ns hcap hwf hbel HO hy hown
              go_wp2_with (first
                | (go_at_call 29; rw [HA.out]; refine (HAL.out _).mono ?_; rintro e W1 ⟨⟨v1, rfl, a1, n1, k1, rfl⟩, hb1⟩; obtain ⟨d0, d1, d2, nsS, ho1, hb2⟩ := HFA.out W1 hb1; obtain ⟨v4, W4, q1, q2, q3⟩ := HAP.out W1 ho1 hb2; have U1 := hidM q1; clear q1)
                | (go_at_call 31; refine (HRIS.out _ nsS).mono ?_; rintro e W2 ⟨rfl, hw2⟩; subst W2)
                | (at_builtin; refine wpList_append_run _ rfl _ _ _ rfl _ _ v4 W4 rfl rfl U1.out ?_))
              go_roundw
              case rel => exact ⟨k + 1, by omega, by go_num, HO2.out, q2, q3⟩
              case measure => simp [intOf]; omega
        · have hbe : ((allOf st).2 != 0) = true := by simpa using he
          have HF := hidM (splitsB_bad (n := n) hy (by unfold spT; rw [decide_eq_false he]; rfl))
          generalize (allOf st).2 = er at HAL hbe he
          clear hWa hba BP hat hat0 ns hcap hwf hbel HO hy hown
          go_wp2_with (first | (go_at_call 29; rw [HA.out]; refine (HAL.out _).mono ?_; rintro e W1 ⟨⟨v1, rfl, a1, n1, k1, rfl⟩, hb1⟩; obtain ⟨d0, d1, d2, nsS, ho1, hb2⟩ := HFA.out W1 hb1))
          go_ret
          exact ⟨by rw [HF.out]; rfl, hb2⟩
      · have hkl : k = L.length := by omega
        have HF := hidM (splitsB_all (n := n) HL6.out (fun s hs => HO.out s (by rw [List.take_of_length_le (by omega)]; exact hs)))
        have hlt' : ¬ (k : Int) < (L.length : Int) := by omega
        have HR := hidM (doRise_any 1048576 _ _ _ (NS.own hown) (by simp [idsL]; omega))
        rw [List.take_of_length_le (by omega)] at HR
        clear hown HO hkl
        go_wp2_with (first | (go_at_call 31; refine HR.out.mono ?_; rintro e W2 ⟨rfl, hw2⟩; subst W2))
        go_ret
        exact ⟨by rw [HF.out]; rfl, hbel⟩
  · have d6 : decide ((6 : Int) < (L.length : Int)) = true := decide_eq_true (by omega)
    have HF := hidM (splitsB_long (n := n) h6)
    clear h6
    go_enter Try.func25, Try.ntmps25
    go_wp2
    go_ret
    exact ⟨by rw [HF.out]; rfl, Below.refl _ _⟩
end Go.Proofs.Ytdejdcibcihfeaa
