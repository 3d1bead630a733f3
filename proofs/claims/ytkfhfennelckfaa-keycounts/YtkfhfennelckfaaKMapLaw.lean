/- 'often[k]++' at a map of counts; what the map holds; the keys met in a range. -/
import Derived.Test.YtkfhfennelckfaaKMap
namespace Go.Proofs.Ytkfhfennelckfaa
open Go.RowKit Go.Maps
set_option linter.unusedVariables false

noncomputable abbrev RI : Value → Option (DataW Unit × List MemPlace) := plainElem Try.prog 3
abbrev i64 (c : Int) : DataW Unit := .lit (.int .i64 c)
abbrev keyV (x : Ky) : Value := .agg #[.int .i64 x.1, .string x.2]

set_option maxRecDepth 100000 in
theorem entry_plus {W : World} {B n : Nat} {D : DataW Unit} (hown : W.ownsMap Try.prog 30 RI B n D) (hn : n < maxLen) {x : Ky} (hx : Good x) :
    ∃ (c : Int) (st : Nat) (W1 : World), D.atKey (klOf x) (i64 0) = i64 c ∧ (Instr.lookup 57 (.map (some B)) (keyV x) false).run Try.prog W = .ok (.int .i64 c) W ∧
      (Instr.mapEntry 57 (.map (some B)) (keyV x)).run Try.prog W = .ok (.tuple #[.int .i64 c, .int .i64 st]) W1 ∧
      (Instr.lookup 57 (.map (some B)) (keyV x) false).run Try.prog W1 = .ok (.int .i64 c) W1 ∧
      ∀ c1 : Int, (Lit.int .i64 c1).wf = true → ∃ W2, (Instr.entryStore 57 (.map (some B)) (.int .i64 st) (.int .i64 c1)).run Try.prog W1 = .ok () W2 ∧ W2.ownsMap Try.prog 30 RI B (n + 1) (D.put (klOf x) (i64 c1)) ∧ W.grownBy W2 (some B) := by
  have hkey := key_mk hx
  have ht := Try.underlying57
  obtain ⟨c, hl, hat, hwc⟩ := hown.lookup_int law ht Try.underlying3 (zeroE _) hkey
  obtain ⟨es, clock, hb, F, hs, hD⟩ := hown
  have hown : W.ownsMap Try.prog 30 RI B n D := ⟨es, clock, hb, F, hs, hD⟩
  obtain ⟨v0, st, es1, clock1, hrun, hv0, hst⟩ := WideElems.entry_then_store klaw ht zeroE hb F hkey
  have hIsMap : IsMap D := ⟨_, hD⟩
  -- what the entry's own value is, and what the map is behind it
  obtain ⟨D1, hD1, hat1, hv⟩ : ∃ D1, (ChangeMaps.setBlock W B (.map es1 clock1)).ownsMap Try.prog 30 RI B (n + 1) D1 ∧ D1.atKey (klOf x) (i64 0) = i64 c ∧ v0 = .int .i64 c := by
    have hsb : ∀ {o o' : Obj}, ChangeMaps.setBlock W B o = ChangeMaps.setBlock W B o' → o = o' := fun {o o'} e => by
      have h1 := ChangeMaps.heap_setBlock_same hb o
      rw [e, ChangeMaps.heap_setBlock_same hb o'] at h1
      injection h1 with h1
      exact h1.symm
    rcases klaw.find W hkey es.toList F.keys with ⟨h1, h2⟩ | ⟨j, e0, h1, h2, h3⟩
    · have hm : (Instr.mapEntry 57 (.map (some B)) (keyV x)).run Try.prog W = .ok (.tuple #[.int .i64 0, goInt clock]) (ChangeMaps.setBlock W B (.map (es.push ⟨keyV x, .int .i64 0, clock⟩) (clock + 1))) := by
        simp [Instr.mapEntry, run_underlying ht, MapKept.run_getObj_map hb, klaw.check W false hkey, h1, MapKept.run_setObj_map _ hb, Result.andThen, ChangeMaps.setBlock]
      have hu : (Instr.mapUpdate 57 (.map (some B)) (keyV x) (.int .i64 0)).run Try.prog W = .ok () (ChangeMaps.setBlock W B (.map (es.push ⟨keyV x, .int .i64 0, clock⟩) (clock + 1))) := by
        simp [Instr.mapUpdate, run_underlying ht, MapKept.run_getObj_map hb, klaw.check W false hkey, h1, MapKept.run_setObj_map _ hb, Result.andThen, ChangeMaps.setBlock]
      obtain ⟨w', g1, g2, _⟩ := hown.update law ht hn hkey (plainElem_int (a := 0) Try.underlying3 (by decide))
      rw [hu] at g1
      injection g1 with _ g1
      rw [hm] at hrun
      injection hrun with e1 e2
      have hc0 : c = 0 := by
        have := WideElems.atKey_none klaw F hkey h2 (i64 0)
        rw [← hD, hat] at this
        injection this with this
        injection this
      refine ⟨_, by rw [← e2, g1]; exact g2, ?_, ?_⟩
      · rw [atKey_put_same hIsMap (law.key hkey), hc0]
      · injection e1 with e1
        injection e1 with e1
        injection e1 with e1
        rw [← e1, hc0]
    · have hj : es[j]? = some e0 := by simpa using h2
      have hm0 : e0 ∈ es.toList := List.mem_of_getElem? h2
      have hsame : es.modify j (fun e => { e with key := keyV x }) = es := by
        apply Array.ext_getElem?
        intro i
        rw [Array.getElem?_modify]
        by_cases hi : j = i
        · subst hi
          have h3' : e0.key = keyV x := h3
          rw [if_pos rfl, hj, Option.map_some, ← h3']
        · rw [if_neg hi]
      have hm : (Instr.mapEntry 57 (.map (some B)) (keyV x)).run Try.prog W = .ok (.tuple #[e0.val, goInt e0.born]) (ChangeMaps.setBlock W B (.map es clock)) := by
        simp [Instr.mapEntry, run_underlying ht, MapKept.run_getObj_map hb, klaw.check W false hkey, h1, hj, h3, klaw.stays W hkey, hsame, MapKept.run_setObj_map _ hb, Result.andThen, ChangeMaps.setBlock]
      rw [hm] at hrun
      injection hrun with e1 e2
      obtain ⟨y, hy⟩ := F.reads e0 hm0
      obtain ⟨z, hz, _⟩ := WideElems.rd_val hy
      obtain ⟨a, ha, hza, _⟩ := plainElem_int_inv Try.underlying3 hz
      have hc0 : a = c := by
        have := WideElems.atKey_some klaw F hkey hm0 h3 hz (i64 0)
        rw [← hD, hat, hza] at this
        injection this with this
        injection this with _ this
        exact this.symm
      refine ⟨D, ?_, hat, ?_⟩
      · rw [← e2]
        exact ⟨es, clock, ChangeMaps.heap_setBlock_same hb _, F, by omega, hD⟩
      · injection e1 with e1
        injection e1 with e1
        injection e1 with e1
        rw [← e1, ha, hc0]
  refine ⟨c, st, _, hat, hl, by rw [hrun, hv]; rfl, ?_, fun c1 hw => ?_⟩
  · obtain ⟨c', hl', hat', _⟩ := hD1.lookup_int law ht Try.underlying3 (zeroE _) hkey
    have e1 : i64 c = i64 c' := hat1.symm.trans hat'
    have e : c = c' := by
      injection e1 with e1
      injection e1
    subst e
    exact hl'
  · have hb1 : (ChangeMaps.setBlock W B (.map es1 clock1)).heap[B]? = some (.map es1 clock1) := ChangeMaps.heap_setBlock_same hb _
    obtain ⟨es', clock', h1, h2⟩ := hst _ (.int .i64 c1) hb1
    obtain ⟨w', h3, h4, h5⟩ := hown.update law ht hn hkey (plainElem_int Try.underlying3 hw)
    rw [h2] at h3
    injection h3 with _ h3
    refine ⟨_, h1, ?_, ?_⟩
    · have e : ChangeMaps.setBlock (ChangeMaps.setBlock W B (.map es1 clock1)) B (.map es' clock') = ChangeMaps.setBlock W B (.map es' clock') := by
        simp [ChangeMaps.setBlock]
      rw [e, h3]
      exact h4
    · have e : ChangeMaps.setBlock (ChangeMaps.setBlock W B (.map es1 clock1)) B (.map es' clock') = ChangeMaps.setBlock W B (.map es' clock') := by
        simp [ChangeMaps.setBlock]
      rw [e, h3]
      exact h5

/-- The map holds how often each key is among l. -/
def MapIs (D : DataW Unit) (l : List Ky) : Prop := IsMap D ∧ ∀ x, Good x → (Maps.has D (klOf x) = true ↔ x ∈ l) ∧ D.atKey (klOf x) (i64 0) = i64 (cnt l x)
theorem kl_key (x : Ky) : WideAt.IsKeyLit (klOf x) := trivial
theorem kl_same (x : Ky) : (klOf x).sameKey (klOf x) = true := by simp [klOf, Lit.sameKey]
theorem MapIs.start : MapIs (.map []) [] := ⟨isMap_empty, fun x hx => ⟨by simp [Maps.has], by
  rw [atKey_of_not_has (by simp [Maps.has])]
  rfl⟩⟩
theorem MapIs.step {D : DataW Unit} {l : List Ky} {y : Ky} (h : MapIs D l) (hy : Good y) : MapIs (D.put (klOf y) (i64 ((cnt l y : Int) + 1))) (l ++ [y]) := by
  refine ⟨h.1.put _ _, fun x hx => ?_⟩
  obtain ⟨h1, h2⟩ := h.2 x hx
  by_cases e : x = y
  · subst e
    refine ⟨⟨fun _ => by simp, fun _ => has_put_same h.1 (kl_key _) _⟩, ?_⟩
    rw [atKey_put_same h.1 (kl_key _), cnt_app, cnt_same]
    simp
  · have hne : klOf x ≠ klOf y := fun e' => e (kl_inj hx hy e')
    refine ⟨?_, ?_⟩
    · rw [has_put_other hne, h1]
      simp [e]
    · rw [atKey_put_other hne, h2, cnt_app, cnt_diff (fun e' => e e'.symm)]
      simp
/-- The keys met so far. -/
def Met (l : List Ky) (left : Lit → Bool) (ss : List Ky) : Prop := ss.Nodup ∧ (∀ x ∈ ss, Good x) ∧ ∀ x, Good x → (x ∈ ss ↔ x ∈ l ∧ left (klOf x) = false)
theorem Met.start {D : DataW Unit} {l : List Ky} (h : MapIs D l) : Met l (Maps.has D) [] := by
  refine ⟨List.nodup_nil, by simp, fun x hx => ?_⟩
  have := (h.2 x hx).1
  constructor
  · intro h'; simp at h'
  · rintro ⟨h1, h2⟩
    rw [this.2 h1] at h2
    cases h2
theorem Met.step {D : DataW Unit} {l ss : List Ky} {left : Lit → Bool} {y : Ky} {d : DataW Unit} (h : Met l left ss) (hD : MapIs D l) (hy : Good y) (hl : left (klOf y) = true) (hat : ∀ zd, D.atKey (klOf y) zd = d) :
    Met l (fun z => left z && !z.sameKey (klOf y)) (ss ++ [y]) := by
  have hyl : y ∈ l := ((hD.2 y hy).1).1 (has_true_of_atKey hat)
  have hyn : y ∉ ss := fun hm => by
    have := ((h.2.2 y hy).1 hm).2
    rw [hl] at this
    cases this
  refine ⟨?_, ?_, fun x hx => ?_⟩
  · rw [List.nodup_append]
    exact ⟨h.1, by simp, fun a ha b hb => by rw [List.mem_singleton] at hb; subst hb; exact fun e => hyn (e ▸ ha)⟩
  · intro x hx
    rcases List.mem_append.1 hx with hx | hx
    · exact h.2.1 x hx
    · rw [List.mem_singleton] at hx; subst hx; exact hy
  · by_cases e : x = y
    · subst e
      simp [hyl, kl_same]
    · have hne : klOf x ≠ klOf y := fun e' => e (kl_inj hx hy e')
      have hs := sameKey_ne hne
      rw [List.mem_append, h.2.2 x hx]
      simp [e, hs]
theorem Met.fin {l ss s : List Ky} {left : Lit → Bool} (h : Met l left ss) (hl : ∀ x ∈ l, Good x) (h0 : ∀ kl, left kl = false) (hs : Srt ss s) : Cnt l s (s.map fun x => (cnt l x : Int)) := by
  refine ⟨?_, fun x => ?_, rfl⟩
  · have hn : s.Nodup := hs.1.nodup_iff.2 h.1
    have hp := hs.2.and hn
    exact hp.imp fun {a b} hab => by
      cases h1 : ltK a b
      · exact absurd (ltK_total h1 hab.1) hab.2
      · rfl
  · rw [hs.1.mem_iff]
    constructor
    · intro hx
      exact ((h.2.2 x (h.2.1 x hx)).1 hx).1
    · intro hx
      exact (h.2.2 x (hl x hx)).2 ⟨hx, h0 _⟩
end Go.Proofs.Ytkfhfennelckfaa
