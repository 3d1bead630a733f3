/- What was gathered, handed back: the rows by rising keys, or the error. -/
import Derived.Test.YtejgcflcckjlpaaGreatDoorBC18M
import Derived.Test.YtejgcflcckjlpaaGreatDoorBC23
namespace Go.Proofs.YtejgcflcckjlpaaGreatDoor
open Go.RowKit Go.Maps
set_option linter.unusedVariables false
set_option maxRecDepth 100000

/-- The rows met so far. -/
structure MetW (D : DataW Value) (st : List Rw) (left : Lit → Bool) (xs : List Raw) : Prop where
  nd : (xs.map (·.1)).Nodup
  good : ∀ x ∈ xs, Good x.1
  at_ : ∀ x ∈ xs, ∀ z, D.atKey (klOf x.1) z = .held (cellV x.2.1 x.2.2)
  all : ∀ y, Good y → (y ∈ xs.map (·.1) ↔ (look st y).isSome = true ∧ left (klOf y) = false)
theorem MetW.start {w : World} {base : Nat} {D : DataW Value} {st : List Rw} (h : MapC w base D st) : MetW D st (Maps.has D) [] := by
  refine ⟨List.nodup_nil, by simp, by simp, fun y hy => ?_⟩
  constructor
  · intro h'; simp at h'
  · rintro ⟨h1, h2⟩
    obtain ⟨c, hc⟩ := Option.isSome_iff_exists.1 h1
    obtain ⟨s, h3, _⟩ := h.yes y c hy hc
    rw [has_true_of_atKey h3] at h2
    cases h2
theorem MetW.step {w : World} {base : Nat} {D : DataW Value} {st : List Rw} {left : Lit → Bool} {xs : List Raw} {x : Raw} (h : MetW D st left xs) (hD : MapC w base D st) (hg : Good x.1) (hl : left (klOf x.1) = true) (hat : ∀ z, D.atKey (klOf x.1) z = .held (cellV x.2.1 x.2.2)) :
    MetW D st (fun z => left z && !z.sameKey (klOf x.1)) (xs ++ [x]) := by
  have hyl : (look st x.1).isSome = true := by
    cases e : look st x.1 with
    | none => have := hD.non _ hg e; rw [has_true_of_atKey hat] at this; cases this
    | some c => rfl
  have hyn : x.1 ∉ xs.map (·.1) := fun hm => by
    have := ((h.all _ hg).1 hm).2
    rw [hl] at this
    cases this
  refine ⟨?_, ?_, ?_, fun y hy => ?_⟩
  · rw [List.map_append, List.nodup_append]
    exact ⟨h.nd, by simp, fun a ha b hb => by simp at hb; subst hb; exact fun e => hyn (e ▸ ha)⟩
  · intro y hy
    rcases List.mem_append.1 hy with hy | hy
    · exact h.good y hy
    · simp at hy; subst hy; exact hg
  · intro y hy
    rcases List.mem_append.1 hy with hy | hy
    · exact h.at_ y hy
    · simp at hy; subst hy; exact hat
  · by_cases e : y = x.1
    · subst e
      simp [hyl, kl_same]
    · have hne : klOf y ≠ klOf x.1 := fun e' => e (kl_inj hy hg e')
      have hs := sameKey_ne hne
      rw [List.map_append, List.mem_append, h.all y hy]
      simp [e, hs]
/-- All met, sorted: just the rows. -/
theorem MetW.fin {w : World} {base : Nat} {D : DataW Value} {st : List Rw} {left : Lit → Bool} {xs s : List Raw} (h : MetW D st left xs) (hD : MapC w base D st) (h0 : ∀ kl, left kl = false) (hst : RiseK st) (hgs : ∀ r ∈ st, Good r.1)
    (hp : s.Perm xs) (hs : s.Pairwise (fun x y => ltK y.1 x.1 = false)) : AllW w base s st := by
  have hk : s.map (·.1) = st.map (·.1) := by
    refine strict_eq (fun x => ?_) ?_ (by rw [List.pairwise_map]; exact hst)
    · rw [(hp.map _).mem_iff]
      constructor
      · intro hx
        obtain ⟨y, hy, rfl⟩ := List.mem_map.1 hx
        obtain ⟨c, hc⟩ := Option.isSome_iff_exists.1 ((h.all _ (h.good y hy)).1 hx).1
        exact List.mem_map.2 ⟨_, look_mem hc, rfl⟩
      · intro hx
        obtain ⟨r, hr, rfl⟩ := List.mem_map.1 hx
        exact (h.all _ (hgs r hr)).2 ⟨by rw [mem_look hst hr]; rfl, h0 _⟩
    · rw [List.pairwise_map]
      have hn : (s.map (·.1)).Nodup := (hp.map _).nodup_iff.2 h.nd
      have hn' : s.Pairwise (fun x y => x.1 ≠ y.1) := by
        have := hn
        unfold List.Nodup at this
        rw [List.pairwise_map] at this
        exact this
      exact (hs.and hn').imp fun {a b} hab => by
        cases h1 : ltK a.1 b.1
        · exact absurd (ltK_total h1 hab.1) hab.2
        · rfl
  have hlen : s.length = st.length := by have := congrArg List.length hk; simpa using this
  refine ⟨hlen, fun i x r hx hr => ?_⟩
  have e : x.1 = r.1 := by
    have : (s.map (·.1))[i]? = (st.map (·.1))[i]? := by rw [hk]
    rw [List.getElem?_map, List.getElem?_map, hx, hr] at this
    injection this
  have hxm : x ∈ xs := hp.mem_iff.1 (List.mem_of_getElem? hx)
  have hat := h.at_ x hxm
  obtain ⟨s', h3, h4⟩ := hD.yes x.1 r.2 (h.good x hxm) (by rw [e]; exact mem_look hst (List.mem_of_getElem? hr))
  have e2 := hat (.held zC)
  rw [h3] at e2
  injection e2 with e2
  injection e2 with e2
  injection e2 with e2
  injection e2 with e3 e4
  injection e3 with _ e3
  injection e4 with e4 _
  injection e4 with f1 f2 f3
  have e5 : s' = x.2.2 := Prod.ext f1 (Prod.ext f2 f3)
  subst e5
  exact ⟨e, e3.symm, h4⟩
theorem rowx_ne_map {w : World} {B n base m : Nat} {D : DataW Value} {e : TypeId} {size : Nat} {v : Value} {xs : List Value} (h : w.ownsRow base e size v m xs) (hm : w.ownsMap Tryz.prog 42 RC B n D) : some B ≠ v.ownBlock := by
  obtain ⟨es, clock, hb, _⟩ := hm
  rcases h.2 with ⟨rfl, _⟩ | ⟨g, cap, cur, rfl, _, hg, _⟩
  · simp [Value.ownBlock]
  · intro e1
    have : B = g := by simpa [Value.ownBlock] using e1
    subst this
    rw [hb] at hg
    cases hg
/-- A row of rows holds no row of numbers. -/
theorem keep_row {W W' : World} {base : Nat} {v : Value} {xs : List Raw} (h : OwnX W base v xs) (hg : W.grownBy W' v.ownBlock) : Keep2 W W' := by
  refine Keep2.grown hg fun g cur e hh => ?_
  rcases h.2 with ⟨rfl, _⟩ | ⟨g', cap, cur', rfl, _, hb, _⟩
  · simp [Value.ownBlock] at e
  · have : g' = g := by simpa [Value.ownBlock] using e
    subst this
    rw [hb] at hh
    injection hh with hh
    injection hh with _ hh
    cases hh
theorem cell_row_new (w : World) (a : Int) (b : ByteArray) (n : Int) (s : Value) (T : TypeId) : ∀ j u, [Value.int .i64 a, .string b, .int .i64 n, s][j]? = some u → (w.alloc (.cells #[.int .i64 a, .string b, .int .i64 n, s] T)).cell? ((⟨w.heap.size, 0, none⟩ : Addr).add j) = some u :=
  fun j u hu => World.news_of_block (heap_alloc_new w _) j u hu
theorem iter_row {w : World} {mp it n cn : Nat} {D : DataW Value} {left : Lit → Bool} (h : w.ranges Tryz.prog 42 RC mp it n D left cn) : ∀ (g : Nat) (cur : Array Value), some it = some g → w.heap[g]? ≠ some (.cells cur 2 (0, 0)) := by
  intro g cur e hh
  obtain ⟨_, _, _, _, _, _, _, _, _, hit, _⟩ := h
  injection e with e
  subst e
  rw [hit] at hh
  cases hh
abbrev RowsR (w : World) (base : Nat) (r : List Rw × Int) : Ending → World → Prop := fun e w' => (∃ v, e = .returned (.tuple #[v, .int .i64 r.2]) ∧ OwnW w' base v r.1) ∧ Below base w w'
set_option maxHeartbeats 1600000 in
theorem rows_any (gp mp base n : Nat) (agg bound : Int) (S : List Rw × Int) (w : World) (h : Gat w base gp mp agg bound S.1 S.2 n) (hb : base ≤ w.heap.size) (hr : RiseK S.1) (hgs : ∀ r ∈ S.1, Good r.1) (hlen : S.1.length ≤ 100000) :
    Calls Tryz.prog 48 #[.pointer (some ⟨gp, 0, none⟩)] w (RowsR w base (fin S)) := by
  obtain ⟨st, bad⟩ := S
  obtain ⟨i0, hi, hz0, hz1, hz2⟩ := info_parts Tryz.infoRow
  obtain ⟨g0, g1, g2, g3, g4⟩ := h.cells
  simp only at hr hgs hlen g3
  by_cases hbad : bad = 0
  · subst hbad
    rw [fin_ok rfl]
    obtain ⟨D, hom, hmc⟩ := h.mo
    have hmc : MapC w base D st := hmc
    go_enter Tryz.func48, Tryz.ntmps48
    go_wp2_with (at_range; refine wpList_range_own _ rfl _ 94 rfl 42 45 law Tryz.underlying94 RC mp n D rfl hom ?_; intro w1 hrg1 hgr1 hs1)
    have hbel1 : Below base w w1 := (Below.refl base w).grown hgr1 hb (fun k hk => by cases hk)
    have hmc1 : MapC w1 base D st := hmc.keep (Keep2.grown hgr1 (fun g cur e => by cases e))
    clear hs1 hgr1
    try go_frame
    go_loopw [4] (fun v2 wr => ∃ left cn xs, wr.ranges Tryz.prog 42 RC mp w.heap.size n D left cn ∧ MetW D st left xs ∧ OwnX wr base v2 xs ∧ MapC wr base D st ∧ Below base w wr) (fun _ wr => wr.rangeLeft mp w.heap.size)
    case atStart => exact ⟨_, _, [], hrg1, MetW.start hmc, World.ownsRow_nil _ _ _ _, hmc1, hbel1⟩
    case round =>
      clear hrg1 hbel1 hmc1
      rename World => w2
      obtain ⟨left, cn, xs, hrg, hM, hok, hmc2, hbel⟩ := hrel
      have hsz2 : base ≤ w2.heap.size := Nat.le_trans hb hbel.size
      have hxl : xs.length ≤ 100000 := by
        have h1 : (xs.map (·.1)).length ≤ (st.map (·.1)).length := nodup_le hM.nd (fun x hx => by
          obtain ⟨y, hy, rfl⟩ := List.mem_map.1 hx
          obtain ⟨c, hc⟩ := Option.isSome_iff_exists.1 ((hM.all _ (hM.good y hy)).1 hx).1
          exact List.mem_map.2 ⟨_, look_mem hc, rfl⟩)
        simp at h1
        omega
      go_wp2_with (at_next; refine wpList_next_ranges _ rfl _ rfl 42 law RC keyV id invK invV mp w.heap.size n _ _ _ rfl hrg ?_ ?_)
      · intro _ hl0
        have hs3 := sortW_own _ base xs w2 hok hsz2 hxl
        go_wp2_with fail
        refine hs3.mono ?_
        rintro e w3 ⟨rfl, s, hp, hso, hok3, hgr3⟩
        have hall := hM.fin (hmc2.keep (keep_row hok hgr3)) hl0 hr hgs hp hso
        have hbel3 : Below base w w3 := hbel.grown hgr3 hsz2 (own_row hok)
        clear hs3 hgr3 hok hrg hM hl0 hbel hmc2
        go_wp2
        go_ret2
        exact ⟨⟨_, rfl, s, hok3, hall⟩, hbel3⟩
      · intro xa xb c kl yd yp w3 cn3 hkey hlk hv hatk hrg3 hltc hg3 hs3 hen
        obtain ⟨rfl, hgx⟩ := key_back hkey
        have hd : yd = .held c := rc_held hv
        have hatk' : ∀ z, D.atKey (klOf (xa, xb)) z = .held c := fun z => (hatk z).trans hd
        obtain ⟨c1, c2, s, rfl, hos⟩ : ∃ (c1 : Int) (c2 : List Int) (s : Sl), c = cellV c1 s ∧ OwnL w2 base (slV s) c2 := by
          cases e : look st (xa, xb) with
          | none => have := hmc2.non _ hgx e; rw [has_true_of_atKey hatk'] at this; cases this
          | some cl =>
            obtain ⟨s, h1, h2⟩ := hmc2.yes _ _ hgx e
            have := hatk' (.held zC)
            rw [h1] at this
            injection this with this
            exact ⟨cl.1, cl.2, s, this.symm, h2⟩
        obtain ⟨s1, s2, s3⟩ := s
        have hM3 := hM.step (x := ((xa, xb), c1, (s1, s2, s3))) hmc2 hgx hlk hatk'
        have hok3 : OwnX w3 base _ xs := hok.kept hg3 (.inr (Ne.symm (row_ne_iter hok hrg)))
        have hmc3 : MapC w3 base D st := hmc2.keep (Keep2.grown hg3 (iter_row hrg))
        have hbel3 : Below base w w3 := hbel.grown hg3 hsz2 (fun k hk => by injection hk with hk; omega)
        have hsz3 : base ≤ w3.heap.size := Nat.le_trans hb hbel3.size
        have HL : Hid (w2.rangeLeft mp w.heap.size = cn) := hrg.left_eq
        simp only [keyV, cellV, slV] at hen
        clear hs3 hkey hlk hv hatk hg3 hok hbel hM hrg hos hmc2 hatk' hd
        have hnw : ∀ j u, [Value.int .i64 xa, .string xb, .int .i64 c1, .slice s1 s2 s3][j]? = some u → (((w3.alloc (.cells #[.int .i64 xa, .string xb] 42)).alloc (.cells #[.int .i64 c1, .slice s1 s2 s3] 45)).alloc (.cells #[.int .i64 xa, .string xb, .int .i64 c1, .slice s1 s2 s3] 47)).cell? ((⟨w3.heap.size + 1 + 1, 0, none⟩ : Addr).add j) = some u := by
          have := cell_row_new ((w3.alloc (.cells #[.int .i64 xa, .string xb] 42)).alloc (.cells #[.int .i64 c1, .slice s1 s2 s3] 45)) xa xb c1 (.slice s1 s2 s3) 47
          rwa [show ((w3.alloc (.cells #[.int .i64 xa, .string xb] 42)).alloc (.cells #[.int .i64 c1, .slice s1 s2 s3] 45)).heap.size = w3.heap.size + 1 + 1 by simp] at this
        go_wp2_with (at_builtin; refine wpList_append_own _ rfl _ _ 29 rfl base 47 i0 _ 4 56 Tryz.underlying29 hi hz0 hz1 hz2 rfl (by decide) _ _ _ rfl (((hok3.alloc _).alloc _).alloc _) ⟨w3.heap.size + 1 + 1, 0, none⟩ 1 1 [.int .i64 xa, .string xb, .int .i64 c1, .slice s1 s2 s3] rfl rfl hnw (encW_cell ((xa, xb), c1, (s1, s2, s3))) ?c3 ?c4 ?c5 ?_)
        case c3 => unfold maxLen; omega
        case c4 => omega
        case c5 => first | omega | (simp; omega)
        intro v4 w4 hown4 hgrow4 _
        have hok4 : OwnX w4 base v4 (xs ++ [((xa, xb), c1, (s1, s2, s3))]) := OwnX.snoc (x := ((xa, xb), c1, (s1, s2, s3))) hown4 rfl
        have hgall := (World.grownBy_alloc w3 (.cells #[.int .i64 xa, .string xb] 42) _).trans ((World.grownBy_alloc (w3.alloc (.cells #[.int .i64 xa, .string xb] 42)) (.cells #[.int .i64 c1, .slice s1 s2 s3] 45) _).trans ((World.grownBy_alloc ((w3.alloc (.cells #[.int .i64 xa, .string xb] 42)).alloc (.cells #[.int .i64 c1, .slice s1 s2 s3] 45)) (.cells #[.int .i64 xa, .string xb, .int .i64 c1, .slice s1 s2 s3] 47) _).trans hgrow4))
        have hrg4 := hrg3.kept hgall (rowx_ne_map hok3 hrg3.owns) (row_ne_iter hok3 hrg3)
        have hmc4 := hmc3.keep (keep_row hok3 hgall)
        have hbel4 : Below base w w4 := hbel3.grown hgall hsz3 (own_row hok3)
        have HLT : Hid (w4.rangeLeft mp w.heap.size < w2.rangeLeft mp w.heap.size) := by unfold Hid; rw [hrg4.left_eq, HL.out]; exact hltc
        clear hown4 hgrow4 hgall hok3 hrg3 hbel3 hnw hltc HL hmc3
        go_wp2
        go_roundw
        case rel => exact ⟨_, _, _, hrg4, hM3, hok4, hmc4, hbel4⟩
        case measure => exact HLT.out
  · have hb' : (bad != 0) = true := by simp [hbad]
    rw [fin_bad hbad]
    simp only
    go_enter Tryz.func48, Tryz.ntmps48
    go_wp2
    go_quiet (fail)
    go_wp2
    go_ret2
    exact ⟨⟨_, rfl, OwnW.nil _ _⟩, (Drawn.below (w := w) ⟨_, rfl⟩ _)⟩
end Go.Proofs.YtejgcflcckjlpaaGreatDoor
