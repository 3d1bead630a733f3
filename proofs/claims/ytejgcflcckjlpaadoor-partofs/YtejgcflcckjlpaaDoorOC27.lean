/- What was gathered, handed back: the rows by rising keys, or the error. -/
import Derived.Test.YtejgcflcckjlpaaDoorOC22
import Derived.Test.YtejgcflcckjlpaaDoorOC26
namespace Go.Proofs.YtejgcflcckjlpaaDoor
open Go.RowKit Go.Maps
set_option linter.unusedVariables false
set_option maxRecDepth 100000

/-- The rows met so far. -/
structure MetW (D : DataW Value) (st : List Rw) (left : Lit → Bool) (xs : List Raw) : Prop where
  nd : (xs.map (·.1)).Nodup
  good : ∀ x ∈ xs, Good x.1
  at_ : ∀ x ∈ xs, ∀ z, D.atKey (klOf x.1) z = .held (cellV x.2.1 x.2.2)
  all : ∀ y, Good y → (y ∈ xs.map (·.1) ↔ (look st y).isSome = true ∧ left (klOf y) = false)
theorem MetW.start {w : World} {base : Nat} {D : DataW Value} {st : List Rw} (h : MapC w base D st) : MetW D st (Maps.has D) [] := by
  refine ⟨List.nodup_nil, by simp, by simp, fun y hy => ?_⟩
  constructor
  · intro h'; simp at h'
  · rintro ⟨h1, h2⟩
    obtain ⟨c, hc⟩ := Option.isSome_iff_exists.1 h1
    obtain ⟨s, h3, _⟩ := h.yes y c hy hc
    rw [has_true_of_atKey h3] at h2
    cases h2
theorem MetW.step {w : World} {base : Nat} {D : DataW Value} {st : List Rw} {left : Lit → Bool} {xs : List Raw} {x : Raw} (h : MetW D st left xs) (hD : MapC w base D st) (hg : Good x.1) (hl : left (klOf x.1) = true) (hat : ∀ z, D.atKey (klOf x.1) z = .held (cellV x.2.1 x.2.2)) :
    MetW D st (fun z => left z && !z.sameKey (klOf x.1)) (xs ++ [x]) := by
  have hyl : (look st x.1).isSome = true := by
    cases e : look st x.1 with
    | none => have := hD.non _ hg e; rw [has_true_of_atKey hat] at this; cases this
    | some c => rfl
  have hyn : x.1 ∉ xs.map (·.1) := fun hm => by
    have := ((h.all _ hg).1 hm).2
    rw [hl] at this
    cases this
  refine ⟨?_, ?_, ?_, fun y hy => ?_⟩
  · rw [List.map_append, List.nodup_append]
    exact ⟨h.nd, by simp, fun a ha b hb => by simp at hb; subst hb; exact fun e => hyn (e ▸ ha)⟩
  · intro y hy
    rcases List.mem_append.1 hy with hy | hy
    · exact h.good y hy
    · simp at hy; subst hy; exact hg
  · intro y hy
    rcases List.mem_append.1 hy with hy | hy
    · exact h.at_ y hy
    · simp at hy; subst hy; exact hat
  · by_cases e : y = x.1
    · subst e
      simp [hyl, kl_same]
    · have hne : klOf y ≠ klOf x.1 := fun e' => e (kl_inj hy hg e')
      have hs := sameKey_ne hne
      rw [List.map_append, List.mem_append, h.all y hy]
      simp [e, hs]
/-- All met, sorted: just the rows. -/
theorem MetW.fin {w : World} {base : Nat} {D : DataW Value} {st : List Rw} {left : Lit → Bool} {xs s : List Raw} (h : MetW D st left xs) (hD : MapC w base D st) (h0 : ∀ kl, left kl = false) (hst : RiseK st) (hgs : ∀ r ∈ st, Good r.1)
    (hp : s.Perm xs) (hs : s.Pairwise (fun x y => ltK y.1 x.1 = false)) : AllW w base s st := by
  have hk : s.map (·.1) = st.map (·.1) := by
    refine strict_eq (fun x => ?_) ?_ (by rw [List.pairwise_map]; exact hst)
    · rw [(hp.map _).mem_iff]
      constructor
      · intro hx
        obtain ⟨y, hy, rfl⟩ := List.mem_map.1 hx
        obtain ⟨c, hc⟩ := Option.isSome_iff_exists.1 ((h.all _ (h.good y hy)).1 hx).1
        exact List.mem_map.2 ⟨_, look_mem hc, rfl⟩
      · intro hx
        obtain ⟨r, hr, rfl⟩ := List.mem_map.1 hx
        exact (h.all _ (hgs r hr)).2 ⟨by rw [mem_look hst hr]; rfl, h0 _⟩
    · rw [List.pairwise_map]
      have hn : (s.map (·.1)).Nodup := (hp.map _).nodup_iff.2 h.nd
      have hn' : s.Pairwise (fun x y => x.1 ≠ y.1) := by
        have := hn
        unfold List.Nodup at this
        rw [List.pairwise_map] at this
        exact this
      exact (hs.and hn').imp fun {a b} hab => by
        cases h1 : ltK a.1 b.1
        · exact absurd (ltK_total h1 hab.1) hab.2
        · rfl
  have hlen : s.length = st.length := by have := congrArg List.length hk; simpa using this
  refine ⟨hlen, fun i x r hx hr => ?_⟩
  have e : x.1 = r.1 := by
    have : (s.map (·.1))[i]? = (st.map (·.1))[i]? := by rw [hk]
    rw [List.getElem?_map, List.getElem?_map, hx, hr] at this
    injection this
  have hxm : x ∈ xs := hp.mem_iff.1 (List.mem_of_getElem? hx)
  have hat := h.at_ x hxm
  obtain ⟨s', h3, h4⟩ := hD.yes x.1 r.2 (h.good x hxm) (by rw [e]; exact mem_look hst (List.mem_of_getElem? hr))
  have e2 := hat (.held zC)
  rw [h3] at e2
  injection e2 with e2
  injection e2 with e2
  injection e2 with e2
  injection e2 with e3 e4
  injection e3 with _ e3
  injection e4 with e4 _
  injection e4 with f1 f2 f3
  have e5 : s' = x.2.2 := Prod.ext f1 (Prod.ext f2 f3)
  subst e5
  exact ⟨e, e3.symm, h4⟩
theorem rowx_ne_map {w : World} {B n base m : Nat} {D : DataW Value} {e : TypeId} {size : Nat} {v : Value} {xs : List Value} (h : w.ownsRow base e size v m xs) (hm : w.ownsMap Tryd.prog 31 RC B n D) : some B ≠ v.ownBlock := by
  obtain ⟨es, clock, hb, _⟩ := hm
  rcases h.2 with ⟨rfl, _⟩ | ⟨g, cap, cur, rfl, _, hg, _⟩
  · simp [Value.ownBlock]
  · intro e1
    have : B = g := by simpa [Value.ownBlock] using e1
    subst this
    rw [hb] at hg
    cases hg
/-- A row of rows holds no row of numbers. -/
theorem keep_row {W W' : World} {base : Nat} {v : Value} {xs : List Raw} (h : OwnX W base v xs) (hg : W.grownBy W' v.ownBlock) : Keep2 W W' := by
  refine Keep2.grown hg fun g cur e hh => ?_
  rcases h.2 with ⟨rfl, _⟩ | ⟨g', cap, cur', rfl, _, hb, _⟩
  · simp [Value.ownBlock] at e
  · have : g' = g := by simpa [Value.ownBlock] using e
    subst this
    rw [hb] at hh
    injection hh with hh
    injection hh with _ hh
    cases hh
theorem cell_row_new (w : World) (a : Int) (b : ByteArray) (n : Int) (s : Value) (T : TypeId) : ∀ j u, [Value.int .i64 a, .string b, .int .i64 n, s][j]? = some u → (w.alloc (.cells #[.int .i64 a, .string b, .int .i64 n, s] T)).cell? ((⟨w.heap.size, 0, none⟩ : Addr).add j) = some u :=
  fun j u hu => World.news_of_block (heap_alloc_new w _) j u hu
theorem iter_row {w : World} {mp it n cn : Nat} {D : DataW Value} {left : Lit → Bool} (h : w.ranges Tryd.prog 31 RC mp it n D left cn) : ∀ (g : Nat) (cur : Array Value), some it = some g → w.heap[g]? ≠ some (.cells cur 2 (0, 0)) := by
  intro g cur e hh
  obtain ⟨_, _, _, _, _, _, _, _, _, hit, _⟩ := h
  injection e with e
  subst e
  rw [hit] at hh
  cases hh
abbrev RowsR (w : World) (base : Nat) (r : List Rw × Int) : Ending → World → Prop := fun e w' => (∃ v, e = .returned (.tuple #[v, .int .i64 r.2]) ∧ OwnW w' base v r.1) ∧ Below base w w'
end Go.Proofs.YtejgcflcckjlpaaDoor
