/- The page's own: Parse. -/
import Derived.Test.YtjegnffhegiajaaLRBlk
namespace Go.Proofs.Ytjegnffhegiajaa
open Go.RowKit
set_option linter.unusedVariables false
set_option maxRecDepth 100000

theorem rp_new {w1 : World} {base : Nat} {v : Value} {ws : List (List UInt8)} (h : OwnS w1 base v (ws.map ba)) (h7 : 0 < w1.heap.size) : ∃ G, RP (w1.alloc (.cells #[v, .int .i64 0] 50)) w1.heap.size G ws 0 := by
  rcases h.2 with ⟨rfl, h0⟩ | ⟨g, cap, cur, rfl, _, hb, hc, _, _, ht⟩
  · have hw : ws = [] := by simpa using h0
    subst hw
    exact ⟨0, by omega, by simp, none, 0, 0, heap_alloc_new w1 _, by simp, .inl rfl, fun i x hx => by simp at hx⟩
  · have hg : g < w1.heap.size := (Array.getElem?_eq_some_iff.1 hb).1
    refine ⟨g, by omega, by simp; omega, some ⟨g, 0, none⟩, cap, 0, ?_, by simpa using hc, .inr rfl, fun i x hx => ?_⟩
    · have := heap_alloc_new w1 (.cells #[.slice (some ⟨g, 0, none⟩) (ws.map ba).length cap, .int .i64 0] 50)
      rw [this]
      simp
    · rw [World.cell?_of_block (a := ⟨g, 0 + i, none⟩) (Below.heap_alloc _ _ _ hg)]
      exact strsAt_of_block hb ht i x hx
set_option maxHeartbeats 400000 in
theorem rparse_any (s : ByteArray) (w : World) (hs : s.size ≤ 140737488351232) (h0 : 0 < w.heap.size) :
    Calls Try.prog 7 #[.string s] w fun e w' => ∃ r, Prog s r ∧ Below w.heap.size w w' ∧ PRes w w' e r := by
  by_cases h5 : 512 < s.size
  · have h5i : (512 : Int) < (s.size : Int) := by omega
    have HP : Hid (Prog s (.err 2)) := by unfold Hid Prog; rw [if_pos h5]
    go_enter Try.func7, Try.ntmps7
    go_wp2
    go_ret2
    exact ⟨_, HP.out, Below.refl _ _, rfl, by decide⟩
  · have h5i : ¬ (512 : Int) < (s.size : Int) := by omega
    have h5j : (s.size : Int) ≤ 512 := by omega
    have Hf := hidR (split_any s w (by omega))
    have hww := ww_split s (by omega)
    go_enter Try.func7, Try.ntmps7
    go_wp2_with (go_at_call 18; refine Hf.out.mono ?_)
    rintro e w1 v rfl hown hb1
    have hs1 := hb1.size
    obtain ⟨G, hrb⟩ := rp_new (ws := splitG [] (L s)) hown (by omega)
    have hb2 := (Below.refl w1.heap.size w1).alloc (Nat.le_refl _) (.cells #[v, .int .i64 0] 50)
    have hL := rlist_all _ (splitG [] (L s)) 0 0 w1.heap.size G _ (Nat.lt_succ_self _) (by omega) (by omega) hww hrb
    rw [show ((0 : Nat) : Int) = 0 from rfl] at hL
    have HL := hidR hL
    have HB := hidR (hb1.trans (hb2.mono hb1.size))
    obtain ⟨a, cap, rfl⟩ := OwnS.shape hown
    clear hL hrb hown hb1 hb2
    go_wp2_with (go_at_call 19; refine HL.out.mono ?_)
    rintro e w3 ⟨r, hp, hg, hres⟩
    have hbel := HB.out.grown hg (by simp; omega) (fun k hk => by injection hk; omega)
    have HP : Hid (Prog s r) := by unfold Hid Prog; rw [if_neg h5]; exact hp
    have HBE := hidR hbel
    clear hp hbel hg
    cases r with
    | err c =>
      obtain ⟨rfl, hc0⟩ := hres
      go_wp2
      go_ret2
      exact ⟨_, HP.out, HBE.out, rfl, hc0⟩
    | ok f ws' m' =>
      obtain ⟨v, rfl, hown, _⟩ := hres
      have HO := hidR hown
      obtain ⟨a', cap', rfl⟩ := hown.len
      clear hown
      go_wp2
      go_ret2
      exact ⟨_, HP.out, HBE.out, _, rfl, HO.out.lower (by simp; omega)⟩
end Go.Proofs.Ytjegnffhegiajaa
