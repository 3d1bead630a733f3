/- Texts laid together: LLay, LLib, LOpOf, LOpOf2, LNext, LCopyO, LRead, LReadO, LReadL. -/
import Derived.Test.YtclcgakfmcofaaaGreatDoorRows
import Derived.Shelf.Strings.FieldsFuncAny
import Derived.Shelf.Strconv.ParseIntPublic10
import Derived.Shelf.Strconv.Itoa4
import Derived.Shelf.Strings.OnBuilder
import Derived.Test.YtclcgakfmcofaaaGreatDoorMW10
import Derived.Test.YtclcgakfmcofaaaGreatDoorMW22
import Derived.Sort.Grow
import Derived.Deep.CutBlock
import Derived.Deep.DeepCutAuto
import Derived.Deep.LoopGhost
set_option linter.unusedVariables false
set_option maxRecDepth 100000
set_option maxHeartbeats 1600000
namespace Go.Proofs.YtclcgakfmcofaaaGreatDoor
open Go.Shelf
def Tryz.lays229_ren : Go.Shelf.Ren := ⟨fun | 229 => 102 | n => n, fun | 9 => 9 | 40 => 163 | 31 => 32 | 152 => 223 | 3 => 3 | 0 => 0 | 4 => 4 | 21 => 21 | 154 => 225 | n => n, fun | n => n⟩
theorem Tryz.lays229 : Go.Proofs.Lays.n229 Tryz.prog Tryz.lays229_ren := {
 mixed := by kernel_rfl
 f229 := Tryz.func102.trans (congrArg some (by kernel_rfl))
 t0 := Tryz.underlying0
 a0 := Tryz.isAgg0
 z0 := Tryz.sizeOf0
 v0 := Tryz.zeroValue0
 t3 := Tryz.underlying3
 a3 := Tryz.isAgg3
 z3 := Tryz.sizeOf3
 v3 := Tryz.zeroValue3
 t4 := Tryz.underlying4
 a4 := Tryz.isAgg4
 z4 := Tryz.sizeOf4
 v4 := Tryz.zeroValue4
 t9 := Tryz.underlying9
 a9 := Tryz.isAgg9
 z9 := Tryz.sizeOf9
 v9 := Tryz.zeroValue9
 t21 := Tryz.underlying21
 a21 := Tryz.isAgg21
 z21 := Tryz.sizeOf21
 v21 := Tryz.zeroValue21
 t31 := Tryz.underlying32
 a31 := Tryz.isAgg32
 z31 := Tryz.sizeOf32
 v31 := Tryz.zeroValue32
 t40 := Tryz.underlying163
 a40 := Tryz.isAgg163
 z40 := Tryz.sizeOf163
 v40 := Tryz.zeroValue163
 t152 := Tryz.underlying223
 a152 := Tryz.isAgg223
 z152 := Tryz.sizeOf223
 v152 := Tryz.zeroValue223
 t154 := Tryz.underlying225
 a154 := Tryz.isAgg225
 z154 := Tryz.sizeOf225
 v154 := Tryz.zeroValue225 }
def Tryz.lays174_ren : Go.Shelf.Ren := ⟨fun | 174 => 214 | 247 => 244 | 245 => 245 | 287 => 257 | 279 => 258 | 280 => 259 | 281 => 260 | 282 => 261 | 321 => 278 | 322 => 279 | 316 => 280 | 171 => 282 | 205 => 281 | 243 => 290 | 246 => 246 | 283 => 262 | 284 => 263 | 285 => 264 | 286 => 265 | 129 => 182 | 317 => 283 | 318 => 284 | 319 => 285 | 320 => 286 | 337 => 291 | 338 => 292 | n => n, fun | 9 => 9 | 3 => 3 | 2 => 2 | 75 => 73 | 85 => 301 | 4 => 4 | 167 => 335 | 5 => 5 | 53 => 194 | 175 => 336 | 46 => 196 | 168 => 338 | 37 => 68 | 0 => 0 | 210 => 356 | 21 => 21 | 127 => 135 | 145 => 368 | 143 => 366 | 171 => 341 | 173 => 343 | 212 => 359 | 51 => 182 | 20 => 20 | 213 => 360 | 232 => 370 | 233 => 371 | 80 => 76 | n => n, fun | 15 => 3 | 16 => 4 | 17 => 5 | 18 => 6 | 19 => 7 | n => n⟩
theorem Tryz.lays174 : Go.Proofs.LaysC.n174 Tryz.prog Tryz.lays174_ren := {
 mixed := by kernel_rfl
 f129 := Tryz.func182.trans (congrArg some (by kernel_rfl))
 f171 := Tryz.func282.trans (congrArg some (by kernel_rfl))
 f174 := Tryz.func214.trans (congrArg some (by kernel_rfl))
 f205 := Tryz.func281.trans (congrArg some (by kernel_rfl))
 f243 := Tryz.func290.trans (congrArg some (by kernel_rfl))
 f245 := Tryz.func245.trans (congrArg some (by kernel_rfl))
 f246 := Tryz.func246.trans (congrArg some (by kernel_rfl))
 f247 := Tryz.func244.trans (congrArg some (by kernel_rfl))
 f279 := Tryz.func258.trans (congrArg some (by kernel_rfl))
 f280 := Tryz.func259.trans (congrArg some (by kernel_rfl))
 f281 := Tryz.func260.trans (congrArg some (by kernel_rfl))
 f282 := Tryz.func261.trans (congrArg some (by kernel_rfl))
 f283 := Tryz.func262.trans (congrArg some (by kernel_rfl))
 f284 := Tryz.func263.trans (congrArg some (by kernel_rfl))
 f285 := Tryz.func264.trans (congrArg some (by kernel_rfl))
 f286 := Tryz.func265.trans (congrArg some (by kernel_rfl))
 f287 := Tryz.func257.trans (congrArg some (by kernel_rfl))
 f316 := Tryz.func280.trans (congrArg some (by kernel_rfl))
 f317 := Tryz.func283.trans (congrArg some (by kernel_rfl))
 f318 := Tryz.func284.trans (congrArg some (by kernel_rfl))
 f319 := Tryz.func285.trans (congrArg some (by kernel_rfl))
 f320 := Tryz.func286.trans (congrArg some (by kernel_rfl))
 f321 := Tryz.func278.trans (congrArg some (by kernel_rfl))
 f322 := Tryz.func279.trans (congrArg some (by kernel_rfl))
 f337 := Tryz.func291.trans (congrArg some (by kernel_rfl))
 f338 := Tryz.func292.trans (congrArg some (by kernel_rfl))
 t0 := Tryz.underlying0
 a0 := Tryz.isAgg0
 z0 := Tryz.sizeOf0
 v0 := Tryz.zeroValue0
 t2 := Tryz.underlying2
 a2 := Tryz.isAgg2
 z2 := Tryz.sizeOf2
 v2 := Tryz.zeroValue2
 t3 := Tryz.underlying3
 a3 := Tryz.isAgg3
 z3 := Tryz.sizeOf3
 v3 := Tryz.zeroValue3
 t4 := Tryz.underlying4
 a4 := Tryz.isAgg4
 z4 := Tryz.sizeOf4
 v4 := Tryz.zeroValue4
 t5 := Tryz.underlying5
 a5 := Tryz.isAgg5
 z5 := Tryz.sizeOf5
 v5 := Tryz.zeroValue5
 t9 := Tryz.underlying9
 a9 := Tryz.isAgg9
 z9 := Tryz.sizeOf9
 v9 := Tryz.zeroValue9
 t20 := Tryz.underlying20
 a20 := Tryz.isAgg20
 z20 := Tryz.sizeOf20
 v20 := Tryz.zeroValue20
 t21 := Tryz.underlying21
 a21 := Tryz.isAgg21
 z21 := Tryz.sizeOf21
 v21 := Tryz.zeroValue21
 t37 := Tryz.underlying68
 a37 := Tryz.isAgg68
 z37 := Tryz.sizeOf68
 v37 := Tryz.zeroValue68
 t46 := Tryz.underlying196
 a46 := Tryz.isAgg196
 z46 := Tryz.sizeOf196
 v46 := Tryz.zeroValue196
 t51 := Tryz.underlying182
 a51 := Tryz.isAgg182
 z51 := Tryz.sizeOf182
 v51 := Tryz.zeroValue182
 t53 := Tryz.underlying194
 a53 := Tryz.isAgg194
 z53 := Tryz.sizeOf194
 v53 := Tryz.zeroValue194
 t75 := Tryz.underlying73
 a75 := Tryz.isAgg73
 z75 := Tryz.sizeOf73
 v75 := Tryz.zeroValue73
 t85 := Tryz.underlying301
 a85 := Tryz.isAgg301
 z85 := Tryz.sizeOf301
 v85 := Tryz.zeroValue301
 t127 := Tryz.underlying135
 a127 := Tryz.isAgg135
 z127 := Tryz.sizeOf135
 v127 := Tryz.zeroValue135
 t143 := Tryz.underlying366
 a143 := Tryz.isAgg366
 z143 := Tryz.sizeOf366
 v143 := Tryz.zeroValue366
 t145 := Tryz.underlying368
 a145 := Tryz.isAgg368
 z145 := Tryz.sizeOf368
 v145 := Tryz.zeroValue368
 t167 := Tryz.underlying335
 a167 := Tryz.isAgg335
 z167 := Tryz.sizeOf335
 v167 := Tryz.zeroValue335
 t168 := Tryz.underlying338
 a168 := Tryz.isAgg338
 z168 := Tryz.sizeOf338
 v168 := Tryz.zeroValue338
 t171 := Tryz.underlying341
 a171 := Tryz.isAgg341
 z171 := Tryz.sizeOf341
 v171 := Tryz.zeroValue341
 t173 := Tryz.underlying343
 a173 := Tryz.isAgg343
 z173 := Tryz.sizeOf343
 v173 := Tryz.zeroValue343
 t175 := Tryz.underlying336
 a175 := Tryz.isAgg336
 z175 := Tryz.sizeOf336
 v175 := Tryz.zeroValue336
 t210 := Tryz.underlying356
 a210 := Tryz.isAgg356
 z210 := Tryz.sizeOf356
 v210 := Tryz.zeroValue356
 t212 := Tryz.underlying359
 a212 := Tryz.isAgg359
 z212 := Tryz.sizeOf359
 v212 := Tryz.zeroValue359
 t213 := Tryz.underlying360
 a213 := Tryz.isAgg360
 z213 := Tryz.sizeOf360
 t232 := Tryz.underlying370
 a232 := Tryz.isAgg370
 z232 := Tryz.sizeOf370
 v232 := Tryz.zeroValue370
 t233 := Tryz.underlying371
 a233 := Tryz.isAgg371
 z233 := Tryz.sizeOf371
 v233 := Tryz.zeroValue371
 g15 := by kernel_rfl
 g16 := by kernel_rfl
 g17 := by kernel_rfl
 g18 := by kernel_rfl
 g19 := by kernel_rfl
 t80 := Tryz.underlying76
 a80 := Tryz.isAgg76
 z80 := Tryz.sizeOf76
 v80 := Tryz.zeroValue76
 i0 := by kernel_rfl
 i2 := by kernel_rfl
 i3 := by kernel_rfl
 i4 := by kernel_rfl
 i5 := by kernel_rfl
 i9 := by kernel_rfl
 i20 := by kernel_rfl
 i21 := by kernel_rfl
 i37 := by kernel_rfl
 i46 := by kernel_rfl
 i51 := by kernel_rfl
 i53 := by kernel_rfl
 i75 := by kernel_rfl
 i80 := by kernel_rfl
 i85 := by kernel_rfl
 i127 := by kernel_rfl
 i143 := by kernel_rfl
 i145 := by kernel_rfl
 i167 := by kernel_rfl
 i168 := by kernel_rfl
 i171 := by kernel_rfl
 i173 := by kernel_rfl
 i175 := by kernel_rfl
 i210 := by kernel_rfl
 i212 := by kernel_rfl
 i232 := by kernel_rfl
 i233 := by kernel_rfl
 m15 := by kernel_rfl
 m16 := by kernel_rfl
 m17 := by kernel_rfl
 m18 := by kernel_rfl
 m19 := by kernel_rfl
 c0 := by kernel_rfl
 c2 := by kernel_rfl
 c3 := by kernel_rfl
 c4 := by kernel_rfl
 c5 := by kernel_rfl
 c9 := by kernel_rfl
 c20 := by kernel_rfl
 c21 := by kernel_rfl
 c37 := by kernel_rfl
 c46 := by kernel_rfl
 c51 := by kernel_rfl
 c53 := by kernel_rfl
 c75 := by kernel_rfl
 c80 := by kernel_rfl
 c85 := by kernel_rfl
 c127 := by kernel_rfl
 c143 := by kernel_rfl
 c145 := by kernel_rfl
 c167 := by kernel_rfl
 c168 := by kernel_rfl
 c171 := by kernel_rfl
 c173 := by kernel_rfl
 c175 := by kernel_rfl
 c210 := by kernel_rfl
 c212 := by kernel_rfl
 c213 := by kernel_rfl
 c232 := by kernel_rfl
 c233 := by kernel_rfl }
def Tryz.lays173_ren : Go.Shelf.Ren := ⟨fun | 173 => 215 | 246 => 246 | 283 => 262 | 284 => 263 | 285 => 264 | 286 => 265 | 129 => 182 | 317 => 283 | 318 => 284 | 319 => 285 | 320 => 286 | 337 => 291 | 338 => 292 | n => n, fun | 2 => 2 | 3 => 3 | 9 => 9 | 4 => 4 | 171 => 341 | 0 => 0 | 53 => 194 | 37 => 68 | 5 => 5 | 173 => 343 | 212 => 359 | 51 => 182 | 20 => 20 | 213 => 360 | 46 => 196 | 232 => 370 | 233 => 371 | n => n, fun | 17 => 5 | 18 => 6 | 19 => 7 | n => n⟩
theorem Tryz.lays173 : Go.Proofs.LaysM.n173 Tryz.prog Tryz.lays173_ren := {
 mixed := by kernel_rfl
 f129 := Tryz.func182.trans (congrArg some (by kernel_rfl))
 f173 := Tryz.func215.trans (congrArg some (by kernel_rfl))
 f246 := Tryz.func246.trans (congrArg some (by kernel_rfl))
 f283 := Tryz.func262.trans (congrArg some (by kernel_rfl))
 f284 := Tryz.func263.trans (congrArg some (by kernel_rfl))
 f285 := Tryz.func264.trans (congrArg some (by kernel_rfl))
 f286 := Tryz.func265.trans (congrArg some (by kernel_rfl))
 f317 := Tryz.func283.trans (congrArg some (by kernel_rfl))
 f318 := Tryz.func284.trans (congrArg some (by kernel_rfl))
 f319 := Tryz.func285.trans (congrArg some (by kernel_rfl))
 f320 := Tryz.func286.trans (congrArg some (by kernel_rfl))
 f337 := Tryz.func291.trans (congrArg some (by kernel_rfl))
 f338 := Tryz.func292.trans (congrArg some (by kernel_rfl))
 t0 := Tryz.underlying0
 a0 := Tryz.isAgg0
 z0 := Tryz.sizeOf0
 v0 := Tryz.zeroValue0
 t2 := Tryz.underlying2
 a2 := Tryz.isAgg2
 z2 := Tryz.sizeOf2
 v2 := Tryz.zeroValue2
 t3 := Tryz.underlying3
 a3 := Tryz.isAgg3
 z3 := Tryz.sizeOf3
 v3 := Tryz.zeroValue3
 t4 := Tryz.underlying4
 a4 := Tryz.isAgg4
 z4 := Tryz.sizeOf4
 v4 := Tryz.zeroValue4
 t5 := Tryz.underlying5
 a5 := Tryz.isAgg5
 z5 := Tryz.sizeOf5
 v5 := Tryz.zeroValue5
 t9 := Tryz.underlying9
 a9 := Tryz.isAgg9
 z9 := Tryz.sizeOf9
 v9 := Tryz.zeroValue9
 t20 := Tryz.underlying20
 a20 := Tryz.isAgg20
 z20 := Tryz.sizeOf20
 v20 := Tryz.zeroValue20
 t37 := Tryz.underlying68
 a37 := Tryz.isAgg68
 z37 := Tryz.sizeOf68
 v37 := Tryz.zeroValue68
 t46 := Tryz.underlying196
 a46 := Tryz.isAgg196
 z46 := Tryz.sizeOf196
 v46 := Tryz.zeroValue196
 t51 := Tryz.underlying182
 a51 := Tryz.isAgg182
 z51 := Tryz.sizeOf182
 v51 := Tryz.zeroValue182
 t53 := Tryz.underlying194
 a53 := Tryz.isAgg194
 z53 := Tryz.sizeOf194
 v53 := Tryz.zeroValue194
 t171 := Tryz.underlying341
 a171 := Tryz.isAgg341
 z171 := Tryz.sizeOf341
 v171 := Tryz.zeroValue341
 t173 := Tryz.underlying343
 a173 := Tryz.isAgg343
 z173 := Tryz.sizeOf343
 v173 := Tryz.zeroValue343
 t212 := Tryz.underlying359
 a212 := Tryz.isAgg359
 z212 := Tryz.sizeOf359
 v212 := Tryz.zeroValue359
 t213 := Tryz.underlying360
 a213 := Tryz.isAgg360
 z213 := Tryz.sizeOf360
 t232 := Tryz.underlying370
 a232 := Tryz.isAgg370
 z232 := Tryz.sizeOf370
 v232 := Tryz.zeroValue370
 t233 := Tryz.underlying371
 a233 := Tryz.isAgg371
 z233 := Tryz.sizeOf371
 v233 := Tryz.zeroValue371
 g17 := by kernel_rfl
 g18 := by kernel_rfl
 g19 := by kernel_rfl
 i0 := by kernel_rfl
 i2 := by kernel_rfl
 i3 := by kernel_rfl
 i4 := by kernel_rfl
 i5 := by kernel_rfl
 i9 := by kernel_rfl
 i20 := by kernel_rfl
 i37 := by kernel_rfl
 i46 := by kernel_rfl
 i51 := by kernel_rfl
 i53 := by kernel_rfl
 i171 := by kernel_rfl
 i173 := by kernel_rfl
 i212 := by kernel_rfl
 i232 := by kernel_rfl
 i233 := by kernel_rfl
 m17 := by kernel_rfl
 m18 := by kernel_rfl
 m19 := by kernel_rfl }
end Go.Proofs.YtclcgakfmcofaaaGreatDoor
namespace Go.Proofs.YtclcgakfmcofaaaGreatDoor
open Go.RowKit Go.Shelf
def tabV : Array Value := (im.map fun l => Value.string (ba l)).toArray
theorem tabV_at (k : Nat) (h : k < 31) : tabV[k]? = some (.string (ba (im.getD k []))) := by
 have hk : k < im.length := h
 simp [tabV, List.getElem?_eq_getElem hk]
theorem pd : tabV.size = 31 := rfl
structure iu (w : World) : Prop where
 table : ∃ t fr, w.heap[0]? = some (.cells tabV t fr)
 syn : ∃ ev, w.cell? ⟨Tryz.lays174_ren.g 15, 0, none⟩ = some ev ∧ (ev = .nilIface ∨ ∃ te pe, ev = .iface te pe)
 rng : ∃ ev, w.cell? ⟨Tryz.lays174_ren.g 16, 0, none⟩ = some ev ∧ (ev = .nilIface ∨ ∃ te pe, ev = .iface te pe)
 pow : Lib.TabIs Tryz.prog w "internal/strconv.uint64pow10" .u64 Lib.pow10Tab
 size : 8 ≤ w.heap.size
theorem gPow : Tryz.prog.globalNamed "internal/strconv.uint64pow10" = some 5 := by kernel_rfl
theorem iu.of_blocks {w w' : World} (h : iu w) (hb : ∀ k, k < 8 → w'.heap[k]? = w.heap[k]?) (hs : w.heap.size ≤ w'.heap.size) : iu w' := by
 refine ⟨?_, ?_, ?_, ?_, Nat.le_trans h.size hs⟩
 ·rw [hb 0 (by omega)]; exact h.table
 ·obtain ⟨ev, h1, h2⟩ := h.syn
  exact ⟨ev, by rw [World.cell?_of_block (a := ⟨Tryz.lays174_ren.g 15, 0, none⟩) (hb 3 (by omega))]; exact h1, h2⟩
 ·obtain ⟨ev, h1, h2⟩ := h.rng
  exact ⟨ev, by rw [World.cell?_of_block (a := ⟨Tryz.lays174_ren.g 16, 0, none⟩) (hb 4 (by omega))]; exact h1, h2⟩
 ·have := h.pow
  unfold Lib.TabIs World.var? at this ⊢
  rw [gPow] at this ⊢
  simp only [Option.bind_some, hb 5 (by omega)] at this ⊢
  exact this
theorem iu.below {w w' : World} {B : Nat} (h : iu w) (hb : Below B w w') (h7 : 8 ≤ B) : iu w' := h.of_blocks (fun k hk => hb.block k (by omega)) hb.size
theorem iu.low {w w' : World} (h : iu w) (hb : Below w.heap.size w w') : iu w' := h.below hb h.size
theorem iu.grown {w w' : World} {R : Nat} (h : iu w) (hg : w.grownBy w' (some R)) (hR : 8 ≤ R) : iu w' := h.of_blocks (fun k hk => hg.block k (by have := h.size; omega) (fun e => by injection e; omega)) hg.size
theorem blank_any (r : Nat) (w : World) (hr : r ≤ 1114111) : Calls Tryz.prog 103 #[.int .i32 r] w fun e w' => e = .returned (.bool (eK r)) ∧ w' = w := by
 unfold eK
 by_cases h1 : r = 32
 ·subst h1
  go_enter Tryz.func103, Tryz.ntmps103
  go_wp2
  go_ret
  exact ⟨rfl, rfl⟩
 ·have h1' : ((r : Int) == 32) = false := beq_eq_false_iff_ne.2 (by omega)
  by_cases h2 : r = 10
  ·subst h2
   go_enter Tryz.func103, Tryz.ntmps103
   go_wp2
   go_ret
   exact ⟨rfl, rfl⟩
  ·have h2' : ((r : Int) == 10) = false := beq_eq_false_iff_ne.2 (by omega)
   have e1 : (r == 32) = false := beq_eq_false_iff_ne.2 h1
   have e2 : (r == 10) = false := beq_eq_false_iff_ne.2 h2
   have e3 : (r == 32 || r == 10) = false := by rw [e1, e2]; rfl
   rw [e3]
   go_enter Tryz.func103, Tryz.ntmps103
   go_wp2
   go_ret
   exact ⟨rfl, rfl⟩
theorem Tryz.info68 : (Tryz.prog.info? (Tryz.lays229_ren.t 154)).map (fun i => (i.zero, i.size, i.bytes)) = some (some (.agg #[.int .i64 0, .int .i64 0]), 2, 16) := by kernel_rfl
theorem Tryz.info9 : (Tryz.prog.info? (Tryz.lays229_ren.t 9)).map (fun i => (i.zero, i.size, i.bytes)) = some (some (.string ⟨#[]⟩), 1, 16) := by kernel_rfl
theorem blank_pays (w : World) : PredAtRunes Tryz.prog 103 #[] eK w := by
 intro W x hx hb
 exact (blank_any x W hx).mono fun e w' ⟨he, hw⟩ => ⟨he, 0, hw⟩
theorem fields_any (s : ByteArray) (w : World) (hs : s.size ≤ 512) :
  Calls Tryz.prog 102 #[.string s, .func (.func 103) #[] #[]] w fun e w' => ∃ v, e = .returned v ∧ fo w' w.heap.size v (kE s) ∧ Below w.heap.size w w' := by
 have h := Any.strings_FieldsFunc_runes Tryz.lays229 103 #[] (enters_of Tryz.func103 (by kernel_rfl) rfl) eK s w (by omega) (blank_pays w) Tryz.info68 Tryz.info9
 rw [fields_split] at h
 refine h.mono fun e w' ⟨A, he, hA, ho, hb⟩ => ⟨_, he, ?_, hb⟩
 exact ho
theorem parse_ok (s : ByteArray) (w : World) (hs : s.size ≤ 512) (v : Int) (h : Lib.parseIntB 64 (L s) = .ok v) :
  Calls Tryz.prog 214 #[.string s, .int .i64 10, .int .i64 64] w fun e w' => e = .returned (.tuple #[.int .i64 v, .nilIface]) ∧ Below w.heap.size w w' := by
 have hc := Any.strconv_ParseInt_10_at64_ok Tryz.lays174 s (by omega) v h w
 refine hc.mono fun e w' ⟨he, hw⟩ => ⟨he, ?_⟩
 rcases hw with rfl | ⟨t, rfl⟩
 ·exact Below.refl _ _
 ·exact Lib.bytesWorld_below _ _ _
theorem parse_no (s : ByteArray) (w : World) (hs : s.size ≤ 512) (hE : iu w) (h : ∀ v, Lib.parseIntB 64 (L s) ≠ .ok v) :
  Calls Tryz.prog 214 #[.string s, .int .i64 10, .int .i64 64] w fun e w' => (∃ z T p, e = .returned (.tuple #[.int .i64 z, .iface T (.pointer (some p))])) ∧ Below w.heap.size w w' := by
 cases hp : Lib.parseIntB 64 (L s) with
 | ok v => exact absurd hp (h v)
 | «syntax» =>
  obtain ⟨ev, h1, h2⟩ := hE.syn
  have hc := Any.strconv_ParseInt_10_at64_syntax Tryz.lays174 s (by omega) hp ev w h1 h2
  exact hc.mono fun e w' ⟨N, he, _, _, hb⟩ => ⟨⟨_, _, _, he⟩, hb⟩
 | range =>
  obtain ⟨ev, h1, h2⟩ := hE.rng
  have hc := Any.strconv_ParseInt_10_at64_range Tryz.lays174 s (by omega) hp ev w h1 h2
  exact hc.mono fun e w' ⟨N, he, _, _, hb⟩ => ⟨⟨_, _, _, he⟩, hb⟩
theorem nh (n : Int) (w : World) (h0 : -9223372036854775808 ≤ n) (h1 : n ≤ 9223372036854775807) (hE : iu w) :
  Calls Tryz.prog 215 #[.int .i64 n, .int .i64 10] w fun e w' => e = .returned (.string (ba (Lib.itoa n))) ∧ Below w.heap.size w w' := by
 have hc := Any.strconv_FormatInt_10 Tryz.lays173 n h0 h1 w hE.pow
 refine hc.mono fun e w' ⟨he, k, os, hw⟩ => ⟨he, ?_⟩
 subst hw
 exact ⟨rfl, rfl, rfl, by simp [Go.Sort.grow], fun j hj => Go.Sort.heap_grow_old (w.drewN k) os hj⟩
theorem Tryz.size31 : (Tryz.prog.info? 300).map (·.size) = some tabV.size := by rw [pd]; kernel_rfl
theorem run_tab (k : Nat) (h : k < 31) (W : World) : (Instr.index 300 (.agg tabV) (.int .i64 (k : Int))).run Tryz.prog W = .ok (.string (ba (im.getD k []))) W := by
 have h1 := tabV_at k h
 have hn : (0 ≤ (k : Int) ∧ (k : Int) < 31) := by omega
 simp [Instr.index, run_underlying Tryz.underlying300, asIntOf, hn, h1, go_sem]
 omega
theorem seq_true {x s : ByteArray} (h : x = s) : (x.toList == s.toList) = true := by subst h; simp
theorem seq_false {x s : ByteArray} (h : x ≠ s) : (x.toList == s.toList) = false := by
 rw [ByteArray.toList_eq, ByteArray.toList_eq]
 simp
 intro hc
 exact h (bT (by rw [hc]))
theorem lst_true {l : List UInt8} {s : ByteArray} (h : l = L s) : (l == s.toList) = true := by rw [ByteArray.toList_eq]; simpa using h
theorem lst_false {l : List UInt8} {s : ByteArray} (h : l ≠ L s) : (l == s.toList) = false := by rw [ByteArray.toList_eq]; simpa using h
def OpR (o : Option (Int × Int)) (e : Ending) : Prop := match o with
 | some (k, n) => e = .returned (.tuple #[.agg #[.int .i64 k, .int .i64 n, .slice none 0 0], .bool true])
 | none => e = .returned (.tuple #[.agg #[.int .i64 0, .int .i64 0, .slice none 0 0], .bool false])
theorem kind_found {l : List UInt8} {k : Nat} (hk : k < 31) (h : im.getD k [] = l) (hn : ∀ j, j < k → im.getD j [] ≠ l) : bV l = some k := by
 unfold bV
 have hl : im.length = 31 := rfl
 have hg : ∀ j (hj : j < im.length), im[j] = im.getD j [] := fun j hj => by rw [List.getD_eq_getElem?_getD, List.getElem?_eq_getElem hj]; rfl
 refine List.findIdx?_eq_some_iff_getElem.2 ⟨by omega, by rw [hg]; simpa using h, fun j hj => ?_⟩
 rw [hg]
 simpa using hn j hj
theorem kind_none {l : List UInt8} (hn : ∀ j, j < 31 → im.getD j [] ≠ l) : bV l = none := by
 unfold bV
 refine List.findIdx?_eq_none_iff.2 fun x hx => ?_
 obtain ⟨j, hj⟩ := List.getElem?_of_mem hx
 have hl : j < 31 := (List.getElem?_eq_some_iff.1 hj).1
 have := hn j hl
 rw [List.getD_eq_getElem?_getD, hj] at this
 simpa using this
theorem opR_kind {l : List UInt8} {k : Nat} (h : bV l = some k) : OpR (gL l) (.returned (.tuple #[.agg #[.int .i64 (k : Int), .int .i64 0, .slice none 0 0], .bool true])) := by
 unfold gL; rw [h]; rfl
theorem opR_num {l : List UInt8} {n : Int} (h : bV l = none) (hn : ch l = some n) : OpR (gL l) (.returned (.tuple #[.agg #[.int .i64 1, .int .i64 n, .slice none 0 0], .bool true])) := by
 unfold gL; rw [h, hn]; rfl
theorem opR_none {l : List UInt8} (h : bV l = none) (hn : ch l = none) : OpR (gL l) (.returned (.tuple #[.agg #[.int .i64 0, .int .i64 0, .slice none 0 0], .bool false])) := by
 unfold gL; rw [h, hn]; rfl
theorem opOf_any (s : ByteArray) (w : World) (hs : s.size ≤ 512) (hne : L s ≠ []) (hE : iu w) :
  Calls Tryz.prog 185 #[.string s] w fun e w' => OpR (gL (L s)) e ∧ Below w.heap.size w w' := by
 have hE0 : iu (w.alloc (.cells #[.int .i64 0, .int .i64 0, .slice none 0 0] 230)) := hE.low ((Below.refl _ _).alloc (Nat.le_refl _) _)
 obtain ⟨tt, fr, hg⟩ := hE0.table
 have HG := iW hg
 clear hg
 go_enter Tryz.func185, Tryz.ntmps185
 go_upto_region 1 with fail
 go_cut [8, 9] (fun s8 s9 wx => s8 = .agg tabV ∧ s9 = .int .i64 0 ∧ wx = w.alloc (.cells #[.int .i64 0, .int .i64 0, .slice none 0 0] 230))
 case first =>
  go_wp2_with (refine wpList_load_row rfl 300 (.global 0) rfl 0 rfl tt tabV fr _ HG.out Tryz.underlying300 rfl Tryz.size31 ?_)
  go_meet
  exact ⟨rfl, rfl, rfl⟩
 case rest =>
  obtain ⟨rfl, rfl, rfl⟩ := hcut
  have hB := aA.new w 0 0 (.slice none 0 0)
  have HB := iW hB
  obtain ⟨c0, c1, c2⟩ := hB.cells
  obtain ⟨f0, f1, f2⟩ := hB.free
  clear hB HG
  go_wp2
  go_loop [9] (fun i => ∃ k : Nat, k ≤ 31 ∧ i = .int .i64 k ∧ Hid (∀ j, j < k → im.getD j [] ≠ L s)) (fun i => 31 - (intOf i).toNat)
  case atStart => exact ⟨0, by omega, rfl, fun j hj => by omega⟩
  case round =>
   obtain ⟨k, hk, rfl, HK⟩ := hrel
   by_cases hlt : k < 31
   ·have hi := run_tab k hlt
    have hk0 : (0 : Int) ≤ k := by omega
    have hk1 : (k : Int) < 31 := by omega
    generalize hx : ba (im.getD k []) = x at hi
    have HX := iW hx
    clear hx
    by_cases he : x = s
    ·have hbe := seq_true he
     have HF := iW (opR_kind (kind_found hlt (by have := HX.out; rw [he] at this; rw [← this, iV]) HK.out))
     clear he
     go_wp2
     have hB2 := aA.new w (k : Int) 0 (.slice none 0 0)
     exact bodyPost_ret (hB2.ret (t := 2) (u := 3) rfl rfl) rfl ⟨HF.out, (Below.refl _ _).alloc (Nat.le_refl _) _⟩
    ·have hbe := seq_false he
     have HN : Hid (im.getD k [] ≠ L s) := fun hc => he (by rw [← HX.out, hc, ba_L])
     clear he
     go_wp2
     go_round
     case rel => exact ⟨k + 1, by omega, by go_num, fun j hj => by
      by_cases hjk : j = k
      ·subst hjk; exact HN.out
      ·exact HK.out j (by omega)⟩
     case measure => simp [intOf]; omega
   ·obtain rfl : k = 31 := by omega
    have hkn := kind_none HK.out
    have hb0 : Below w.heap.size w (w.alloc (.cells #[.int .i64 0, .int .i64 0, .slice none 0 0] 230)) := (Below.refl _ _).alloc (Nat.le_refl _) _
    by_cases hp : ∃ v, Lib.parseIntB 64 (L s) = .ok v
    ·obtain ⟨v, hv⟩ := hp
     have hbd := Lib.parseIntB_bounds hv
     have hv0 : -9223372036854775808 ≤ v := by have := hbd.1; rw [show ((2 ^ (64 - 1) : Nat) : Int) = 9223372036854775808 from rfl] at this; omega
     have hv1 : v ≤ 9223372036854775807 := by have := hbd.2; rw [show ((2 ^ (64 - 1) : Nat) : Int) = 9223372036854775808 from rfl] at this; omega
     clear hbd
     have Hc := iW (fun W => parse_ok s W hs v hv)
     by_cases hi : Lib.itoa v = L s
     ·have HF := iW (opR_num hkn (show ch (L s) = some v by unfold ch; rw [hv]; simp [hi]))
      have hbe := lst_true hi
      clear hv hkn hi HK
      go_wp2_with (go_at_call 214; refine (Hc.out _).mono ?_; rintro e w1 ⟨rfl, hb1⟩)
      have hE1 := hE0.low hb1
      refine (nh v w1 hv0 hv1 hE1).mono ?_
      rintro e w2 ⟨rfl, hb2⟩
      have hB2 := ((aA.new w 0 0 (.slice none 0 0)).step hb1).step hb2
      have hw2 : Below w.heap.size w w2 := (hb0.trans (hb1.mono (by simp))).trans (hb2.mono (by have := hb1.size; simp at this; omega))
      obtain ⟨d0, d1, d2⟩ := hB2.cells
      obtain ⟨g0, g1, g2⟩ := hB2.free
      have HB2 := iW hB2
      have HW2 := iW hw2
      clear hb0 hb1 hb2 hE0 hE1 hB2 hw2 c0 c1 c2 f0 f1 f2
      go_wp2
      exact bodyPost_ret ((HB2.out.put 1 v (.slice none 0 0)).ret (t := 2) (u := 3) rfl rfl) rfl ⟨HF.out, bel_put HW2.out (Nat.le_refl _) _ _ _⟩
     ·have HF := iW (opR_none hkn (show ch (L s) = none by unfold ch; rw [hv]; simp [hi]))
      have hbe := lst_false hi
      clear hv hkn hi HK
      go_wp2_with (go_at_call 214; refine (Hc.out _).mono ?_; rintro e w1 ⟨rfl, hb1⟩)
      have hE1 := hE0.low hb1
      refine (nh v w1 hv0 hv1 hE1).mono ?_
      rintro e w2 ⟨rfl, hb2⟩
      have hB2 := ((aA.new w 0 0 (.slice none 0 0)).step hb1).step hb2
      have hw2 : Below w.heap.size w w2 := (hb0.trans (hb1.mono (by simp))).trans (hb2.mono (by have := hb1.size; simp at this; omega))
      obtain ⟨d0, d1, d2⟩ := hB2.cells
      obtain ⟨g0, g1, g2⟩ := hB2.free
      have HB2 := iW hB2
      have HW2 := iW hw2
      clear hb0 hb1 hb2 hE0 hE1 hB2 hw2 c0 c1 c2 f0 f1 f2
      go_wp2
      exact bodyPost_ret ((HB2.out.put 0 0 (.slice none 0 0)).ret (t := 2) (u := 3) rfl rfl) rfl ⟨HF.out, bel_put HW2.out (Nat.le_refl _) _ _ _⟩
    ·have hp' : ∀ v, Lib.parseIntB 64 (L s) ≠ .ok v := fun v hv => hp ⟨v, hv⟩
     have HF := iW (opR_none hkn (show ch (L s) = none by
      unfold ch
      cases hq : Lib.parseIntB 64 (L s) with
      | ok v => exact absurd hq (hp' v)
      | «syntax» => rfl
      | range => rfl))
     have Hc := iW (fun W hW => parse_no s W hs hW hp')
     clear hp hp' hkn HK
     go_wp2_with (go_at_call 214; refine (Hc.out _ hE0).mono ?_)
     rintro e w1 z T pp rfl hb1
     have hB2 := (aA.new w 0 0 (.slice none 0 0)).step (hb1.mono (by simp))
     have hw2 : Below w.heap.size w w1 := hb0.trans (hb1.mono (by simp))
     obtain ⟨d0, d1, d2⟩ := hB2.cells
     obtain ⟨g0, g1, g2⟩ := hB2.free
     have HB2 := iW hB2
     have HW2 := iW hw2
     clear hb0 hb1 hE0 hB2 hw2 c0 c1 c2 f0 f1 f2
     go_wp2
     exact bodyPost_ret ((HB2.out.put 0 0 (.slice none 0 0)).ret (t := 2) (u := 3) rfl rfl) rfl ⟨HF.out, bel_put HW2.out (Nat.le_refl _) _ _ _⟩
def RB (w : World) (R G : Nat) (ws : List (List UInt8)) (m : Nat) : Prop :=
 G ≠ R ∧ G < w.heap.size ∧ ∃ a cap o, w.heap[R]? = some (.cells #[.slice a ws.length cap, .int .i64 m] 165 (0, 0)) ∧ ws.length ≤ cap ∧ (ws = [] ∨ a = some ⟨G, o, none⟩) ∧ jb w G o (ws.map ba)
theorem RB.lt {w : World} {R G m : Nat} {ws : List (List UInt8)} (h : RB w R G ws m) : R < w.heap.size := by
 obtain ⟨_, _, a, cap, o, hb, _⟩ := h
 exact (Array.getElem?_eq_some_iff.1 hb).1
theorem RB.keep {w w' : World} {R G m : Nat} {ws : List (List UInt8)} (h : RB w R G ws m) (hR : w'.heap[R]? = w.heap[R]?) (hG : w'.heap[G]? = w.heap[G]?) (hs : w.heap.size ≤ w'.heap.size) : RB w' R G ws m := by
 obtain ⟨h1, h2, a, cap, o, hb, hc, ha, hst⟩ := h
 refine ⟨h1, by omega, a, cap, o, by rw [hR]; exact hb, hc, ha, fun i x hx => ?_⟩
 rw [World.cell?_of_block (a := ⟨G, o + i, none⟩) hG]
 exact hst i x hx
theorem RB.below {w w' : World} {R G m : Nat} {ws : List (List UInt8)} (h : RB w R G ws m) (hb : Below w.heap.size w w') : RB w' R G ws m := h.keep (hb.block _ h.lt) (hb.block _ h.2.1) hb.size
theorem next_nil (R G m : Nat) (w : World) (h : RB w R G [] m) :
  Calls Tryz.prog 147 #[.pointer (some ⟨R, 0, none⟩)] w fun e w' => e = .returned (.tuple #[.string ⟨#[]⟩, .bool false]) ∧ w' = w := by
 obtain ⟨_, _, a, cap, o, hb, _⟩ := h
 have c0 : w.cell? ⟨R, 0, none⟩ = some (.slice a 0 cap) := by simp [World.cell?, hb]
 clear hb
 go_enter Tryz.func147, Tryz.ntmps147
 go_wp2
 go_ret2
 exact ⟨rfl, rfl⟩
theorem rb_step {w : World} {R G m o cap cap' : Nat} {x : List UInt8} {ws : List (List UInt8)} {a a' : Option Addr} (hGR : G ≠ R) (hG : G < w.heap.size) (hb : w.heap[R]? = some (.cells #[.slice a (x :: ws).length cap, .int .i64 m] 165 (0, 0)))
  (hst : jb w G o ((x :: ws).map ba)) (ha : ws = [] ∨ a' = some ⟨G, o + 1, none⟩) (hc : ws.length ≤ cap') :
  w.grownBy (w.setCell ⟨R, 0, none⟩ (.slice a' ws.length cap')).drew (some R) ∧ RB (w.setCell ⟨R, 0, none⟩ (.slice a' ws.length cap')).drew R G ws m := by
 refine ⟨⟨rfl, rfl, rfl, by simp [World.setCell, World.drew], fun k hk hne => Below.heap_setCell _ _ _ _ (fun e => hne (by rw [e]))⟩, hGR, by simpa [World.setCell, World.drew] using hG, a', cap', o + 1, ?_, hc, ha, fun i y hy => ?_⟩
 ·show (w.heap.modify _ _)[R]? = _
  rw [Array.getElem?_modify, hb]
  simp
 ·have := hst (i + 1) y (by simpa using hy)
  have e : (w.setCell ⟨R, 0, none⟩ (.slice a' ws.length cap')).drew.cell? ⟨G, o + 1 + i, none⟩ = w.cell? ⟨G, o + 1 + i, none⟩ :=
   World.cell?_of_block (a := ⟨G, o + 1 + i, none⟩) (Below.heap_setCell _ _ _ _ hGR)
  rw [e, show o + 1 + i = o + (i + 1) by omega]
  exact this
theorem pf (R G m : Nat) (x : List UInt8) (ws : List (List UInt8)) (w : World) (h : RB w R G (x :: ws) m) (hl : ws.length ≤ 1000) :
  Calls Tryz.prog 147 #[.pointer (some ⟨R, 0, none⟩)] w fun e w' => e = .returned (.tuple #[.string (ba x), .bool true]) ∧ w.grownBy w' (some R) ∧ RB w' R G ws m := by
 obtain ⟨hGR, hG, a, cap, o, hb, hc, ha, hst⟩ := h
 rcases ha with ha | rfl
 ·simp at ha
 have c0 : w.cell? ⟨R, 0, none⟩ = some (.slice (some ⟨G, o, none⟩) (ws.length + 1) cap) := by simp [World.cell?, hb]
 have f0 : w.frozen? ⟨R, 0, none⟩ = false := by simp [World.frozen?, hb]
 have d0 : w.cell? ⟨G, o, none⟩ = some (.string (ba x)) := by have := hst 0 (ba x) rfl; simpa using this
 have HB : Hid (_ = _) := hb
 have HS : Hid (jb w G o ((x :: ws).map ba)) := hst
 simp only [List.length_cons] at hc
 have hn0 : (((ws.length : Int) + 1) == 0) = false := beq_eq_false_iff_ne.2 (by omega)
 have hn1 : (0 : Int) < (ws.length : Int) + 1 := by omega
 clear hb hst
 go_enter Tryz.func147, Tryz.ntmps147
 by_cases hcap : cap = 1
 ·have hw0 : ws = [] := List.length_eq_zero_iff.1 (by omega)
  go_wp2
  go_region
  go_wp2
  all_goals
   go_ret2
   subst hw0
   exact ⟨rfl, rb_step (ws := []) (cap' := 0) hGR hG HB.out HS.out (.inl rfl) (Nat.le_refl _)⟩
 ·go_wp2
  go_region
  go_wp2
  all_goals
   go_ret2
   exact ⟨rfl, rb_step hGR hG HB.out HS.out (.inr rfl) (by omega)⟩
end Go.Proofs.YtclcgakfmcofaaaGreatDoor
namespace Go.Proofs.YtclcgakfmcofaaaGreatDoor
open Go.RowKit
end Go.Proofs.YtclcgakfmcofaaaGreatDoor
namespace Go.Proofs.YtclcgakfmcofaaaGreatDoor
open Go.RowKit Go.Shelf
inductive Or1 where
 | err (c : Int)
 | ok (k n : Int) (b : Fo) (ws : List (List UInt8)) (m : Nat)
def OPP (d : Nat) (x : List UInt8) (ws : List (List UInt8)) (m : Nat) : Or1 → Prop
 | .err c => PL d (x :: ws) m (.err c) ∧ c ≠ 0
 | .ok k n b ws' m' => (∀ r, PL d ws' m' r → PL d (x :: ws) m (r.pre (one k n b))) ∧ m' ≤ 128 ∧ m < m' ∧ ∃ u, ws = u ++ ws'
def LRes (R G : Nat) (w w' : World) (e : Ending) : Rs → Prop
 | .err c => e = .returned (.tuple #[.slice none 0 0, .int .i64 c]) ∧ c ≠ 0
 | .ok f ws' m' => ∃ v, e = .returned (.tuple #[v, .int .i64 0]) ∧ dI w.heap.size w' v f ∧ RB w' R G ws' m'
def LR (R G d : Nat) (ws : List (List UInt8)) (m : Nat) (w : World) (e : Ending) (w' : World) : Prop := ∃ r, PL d ws m r ∧ w.grownBy w' (some R) ∧ LRes R G w w' e r
def ListC (N : Nat) : Prop := ∀ (ws : List (List UInt8)) (d m R G : Nat) (w : World), ws.length < N → d ≤ 6 → m ≤ 128 → WW ws → RB w R G ws m → iu w → 8 ≤ R →
 Calls Tryz.prog 104 #[.pointer (some ⟨R, 0, none⟩), .int .i64 d] w fun e w' => LR R G d ws m w e w'
def BRes (R G : Nat) (w w' : World) (e : Ending) (k n : Int) : Or1 → Prop
 | .err c => e = .returned (.tuple #[.slice none 0 0, .int .i64 c])
 | .ok k' n' b ws' m' => k' = k ∧ n' = n ∧ ∃ v, e = .returned (.tuple #[v, .int .i64 0]) ∧ dI w.heap.size w' v b ∧ RB w' R G ws' m'
def ORes (R G : Nat) (w w' : World) (e : Ending) : Or1 → Prop
 | .err c => e = .returned (.tuple #[.agg #[.int .i64 0, .int .i64 0, .slice none 0 0], .int .i64 c])
 | .ok k n b ws' m' => ∃ v, e = .returned (.tuple #[.agg #[.int .i64 k, .int .i64 n, v], .int .i64 0]) ∧ dI w.heap.size w' v b ∧ RB w' R G ws' m'
theorem rb_many {w : World} {R G m : Nat} {ws : List (List UInt8)} (h : RB w R G ws m) (m' : Nat) : RB (w.setCell ⟨R, 1, none⟩ (.int .i64 (m' : Int))) R G ws m' := by
 obtain ⟨h1, h2, a, cap, o, hb, hc, ha, hst⟩ := h
 refine ⟨h1, by simpa [World.setCell] using h2, a, cap, o, ?_, hc, ha, fun i x hx => ?_⟩
 ·show (w.heap.modify _ _)[R]? = _
  rw [Array.getElem?_modify, hb]
  simp
 ·rw [World.cell?_of_block (a := ⟨G, o + i, none⟩) (Below.heap_setCell _ _ _ _ h1)]
  exact hst i x hx
theorem RB.cell1 {w : World} {R G m : Nat} {ws : List (List UInt8)} (h : RB w R G ws m) : w.cell? ⟨R, 1, none⟩ = some (.int .i64 m) ∧ w.frozen? ⟨R, 1, none⟩ = false := by
 obtain ⟨h1, h2, a, cap, o, hb, _⟩ := h
 constructor <;> simp [World.cell?, World.frozen?, hb]
theorem RB.set {w : World} {R G m b q : Nat} {ws : List (List UInt8)} (h : RB w R G ws m) (hR : b ≠ R) (hG : b ≠ G) (u : Value) : RB (w.setCell ⟨b, q, none⟩ u) R G ws m :=
 h.keep (Below.heap_setCell _ _ _ _ (by show R ≠ b; omega)) (Below.heap_setCell _ _ _ _ (by show G ≠ b; omega)) (by simp [World.setCell])
theorem block_any (N : Nat) (IH : ListC N) (x : List UInt8) (k n : Int) (ws : List (List UInt8)) (d m R G : Nat) (w : World) (hN : ws.length ≤ N) (hd : d ≤ 6) (hm : m < 128) (hW : WW ws) (hx : gL x = some (k, n)) (hk : bm k = true)
  (hr : RB w R G ws (m + 1)) (hE : iu w) (hR : 8 ≤ R) :
  Calls Tryz.prog 187 #[.pointer (some ⟨R, 0, none⟩), .int .i64 (d + 1)] w fun e w' => ∃ res, OPP d x ws m res ∧ w.grownBy w' (some R) ∧ BRes R G w w' e k n res := by
 cases ws with
 | nil =>
  have Hc := aj (next_nil R G (m + 1) w hr)
  have HP := aj (PL.cutB hx hk d (m := m) (by omega))
  clear hr hE
  go_enter Tryz.func187, Tryz.ntmps187
  go_wp2_with (go_at_call 147; refine Hc.out.mono ?_; rintro e w1 ⟨rfl, rfl⟩)
  go_ret2
  exact ⟨.err 6, ⟨HP.out, by decide⟩, World.grownBy.refl _ _, rfl⟩
 | cons y ws =>
  have hl := hW.1
  simp only [List.length_cons] at hl hN
  have Hc := aj (pf R G (m + 1) y ws w hr (by omega))
  by_cases hy : y = fh
  ·subst hy
   by_cases hd6 : 6 < d + 1
   ·have HP := aj (PL.deepB hx hk (m := m) (by omega) hd6 ws)
    have hy2 : (fh == [91]) = true := by decide
    have hdi : (6 : Int) < (d : Int) + 1 := by omega
    clear hr hE
    go_enter Tryz.func187, Tryz.ntmps187
    go_wp2_with (go_at_call 147; refine Hc.out.mono ?_; rintro e w1 ⟨rfl, hg1, hr1⟩)
    go_ret2
    exact ⟨.err 2, ⟨HP.out, by decide⟩, hg1, rfl⟩
   ·have hdi : ¬ (6 : Int) < (d : Int) + 1 := by omega
    have hdi2 : (d : Int) + 1 ≤ 6 := by omega
    have HH := aj IH
    have HE := aj hE
    have HX := aj hx
    have HK := aj hk
    have HWW := aj hW.tail
    clear hr hE hx hk hW IH
    go_enter Tryz.func187, Tryz.ntmps187
    go_wp2_with (go_at_call 147; refine Hc.out.mono ?_; rintro e w1 ⟨rfl, hg1, hr1⟩)
    have hL := HH.out ws (d + 1) (m + 1) R G w1 (by omega) (by omega) (by omega) HWW.out hr1 (HE.out.grown hg1 hR) hR
    rw [show ((d + 1 : Nat) : Int) = (d : Int) + 1 by omega] at hL
    refine hL.mono ?_
    rintro e w2 ⟨r, hp, hg2, hres⟩
    cases r with
    | err c =>
     obtain ⟨rfl, hc0⟩ := hres
     have HP := aj (PL.errB HX.out HK.out (m := m) (by omega) hd6 hp)
     clear hp hr1
     go_wp2
     go_ret2
     exact ⟨.err c, ⟨HP.out, hc0⟩, hg1.trans hg2, rfl⟩
    | ok f ws' m' =>
     obtain ⟨v, rfl, hown, hr2⟩ := hres
     obtain ⟨fu, hfu⟩ := hp
     obtain ⟨_, _, hmt, hm2, u, hu⟩ := read_ok fu (d + 1) ws (m + 1) f ws' m' hfu (fun x hx => (HWW.out.2 x hx).1) (by omega) (by omega)
     have hmlt : m < m' := by omega
     clear hmt
     have HP := aj (fun r (h2 : PL d ws' m' r) => PL.blk HX.out HK.out (m := m) (by omega) hd6 ⟨fu, hfu⟩ h2)
     have HO := aj hown
     have HR := aj hr2
     have HU := aj hu
     obtain ⟨a, cap, rfl⟩ := hown.len
     have hsz := hg1.size
     clear hfu hr1 hown hr2 hu
     go_wp2
     go_ret2
     exact ⟨.ok k n f ws' m', ⟨HP.out, hm2, hmlt, fh :: u, by rw [HU.out]; rfl⟩, hg1.trans hg2, rfl, rfl, _, rfl, HO.out.lower hsz, HR.out⟩
  ·have HP := aj (PL.badB hx hk d (m := m) (by omega) hy ws)
   have hy2 : (y == [91]) = false := beq_eq_false_iff_ne.2 hy
   clear hr hE
   go_enter Tryz.func187, Tryz.ntmps187
   go_wp2_with (go_at_call 147; refine Hc.out.mono ?_; rintro e w1 ⟨rfl, hg1, hr1⟩)
   go_ret2
   exact ⟨.err 7, ⟨HP.out, by decide⟩, hg1, rfl⟩
theorem gput {w w1 : World} {r : Option Nat} (h : w.grownBy w1 r) {b : Nat} (hb : w.heap.size ≤ b) (u0 u1 u2 : Value) : w.grownBy (((w1.setCell ⟨b, 0, none⟩ u0).setCell ⟨b, 1, none⟩ u1).setCell ⟨b, 2, none⟩ u2) r := gset (gset (gset h hb _) hb _) hb _
theorem RB.put {w : World} {R G m b : Nat} {ws : List (List UInt8)} (h : RB w R G ws m) (hR : b ≠ R) (hG : b ≠ G) (u0 u1 u2 : Value) : RB (((w.setCell ⟨b, 0, none⟩ u0).setCell ⟨b, 1, none⟩ u1).setCell ⟨b, 2, none⟩ u2) R G ws m := ((h.set hR hG _).set hR hG _).set hR hG _
theorem op_any (N : Nat) (IH : ListC N) (x : List UInt8) (ws : List (List UInt8)) (d m R G : Nat) (w : World) (hN : ws.length ≤ N) (hd : d ≤ 6) (hm : m ≤ 128) (hW : WW (x :: ws)) (hs : ¬ (x = ee ∧ 0 < d))
  (hr : RB w R G ws m) (hE : iu w) (hR : 8 ≤ R) :
  Calls Tryz.prog 148 #[.pointer (some ⟨R, 0, none⟩), .string (ba x), .int .i64 d] w fun e w' => ∃ res, OPP d x ws m res ∧ w.grownBy w' (some R) ∧ ORes R G w w' e res := by
 have hx := hW.2 x (by simp)
 have hb0 : Below w.heap.size w (w.alloc (.cells #[.int .i64 0, .int .i64 0, .slice none 0 0] 230)) := (Below.refl _ _).alloc (Nat.le_refl _) _
 have Hc := aj (opOf_any (ba x) (w.alloc (.cells #[.int .i64 0, .int .i64 0, .slice none 0 0] 230)) (by show (ba x).size ≤ 512; rw [← dd, iV]; exact hx.2) (by rw [iV]; exact hx.1) (hE.low hb0))
 rw [iV] at Hc
 have hRl := hr.lt
 have hGl := hr.2.1
 have HR := aj hr
 have HE := aj hE
 have HWW := aj hW
 have HH := aj IH
 clear hr hE hW IH hx
 cases ho : gL x with
 | none =>
  have HP := aj (PL.bad hs ho ws m)
  rw [ho] at Hc
  clear ho hs
  go_enter Tryz.func148, Tryz.ntmps148
  go_wp2_with fail
  refine Hc.out.mono ?_
  rintro e w1 ⟨he, hb1⟩
  obtain rfl := he
  have h6 := ((aA.new w 0 0 (.slice none 0 0)).step hb1).step ((Below.refl w1.heap.size w1).alloc (Nat.le_refl _) (.cells #[.int .i64 0, .int .i64 0, .slice none 0 0] 230))
  have hg1 := eP (gbel (eP (World.grownBy.refl w (some R)) _) hb1) (.cells #[.int .i64 0, .int .i64 0, .slice none 0 0] 230)
  obtain ⟨c0, c1, c2⟩ := h6.cells
  obtain ⟨f0, f1, f2⟩ := h6.free
  have H6 := aj h6
  have HG := aj hg1
  clear h6 hg1 hb1
  go_wp2
  exact bodyPost_ret ((H6.out.put 0 0 (.slice none 0 0)).ret (t := 6) (u := 7) rfl rfl) rfl ⟨.err 7, ⟨HP.out, by decide⟩, gput HG.out (Nat.le_refl _) _ _ _, rfl⟩
 | some kn =>
  obtain ⟨k, n⟩ := kn
  rw [ho] at Hc
  have HX := aj ho
  clear ho hs
  by_cases hm8 : m = 128
  ·subst hm8
   have HP := aj (PL.full HX.out d ws)
   go_enter Tryz.func148, Tryz.ntmps148
   go_wp2_with fail
   refine Hc.out.mono ?_
   rintro e w1 ⟨he, hb1⟩
   obtain rfl := he
   have h6 := ((aA.new w 0 0 (.slice none 0 0)).step hb1).step ((Below.refl w1.heap.size w1).alloc (Nat.le_refl _) (.cells #[.int .i64 k, .int .i64 n, .slice none 0 0] 230))
   have hg1 := eP (gbel (eP (World.grownBy.refl w (some R)) _) hb1) (.cells #[.int .i64 k, .int .i64 n, .slice none 0 0] 230)
   have hr1 := ((HR.out.below hb0).below hb1).below ((Below.refl w1.heap.size w1).alloc (Nat.le_refl _) (.cells #[.int .i64 k, .int .i64 n, .slice none 0 0] 230))
   obtain ⟨c0, c1, c2⟩ := h6.cells
   obtain ⟨f0, f1, f2⟩ := h6.free
   obtain ⟨r1, r2⟩ := hr1.cell1
   have H6 := aj h6
   have HG := aj hg1
   clear h6 hg1 hb1 hr1
   go_wp2
   exact bodyPost_ret ((H6.out.put 0 0 (.slice none 0 0)).ret (t := 6) (u := 7) rfl rfl) rfl ⟨.err 2, ⟨HP.out, by decide⟩, gput HG.out (Nat.le_refl _) _ _ _, rfl⟩
  ·have hmi : ((m : Int) == 128) = false := beq_eq_false_iff_ne.2 (by omega)
   have hm0 : (0 : Int) ≤ m := by omega
   have hm1 : (m : Int) < 128 := by omega
   cases hk : bm k with
   | false =>
    have Hh := aj (fun W => jO k W)
    rw [hk] at Hh
    have HP := aj (fun r (h : PL d ws (m + 1) r) => PL.one HX.out hk (m := m) hm8 h)
    clear hk
    go_enter Tryz.func148, Tryz.ntmps148
    go_wp2_with fail
    refine Hc.out.mono ?_
    rintro e w1 ⟨he, hb1⟩
    obtain rfl := he
    have h6 := ((aA.new w 0 0 (.slice none 0 0)).step hb1).step ((Below.refl w1.heap.size w1).alloc (Nat.le_refl _) (.cells #[.int .i64 k, .int .i64 n, .slice none 0 0] 230))
    have h8 := aA.new w1 k n (.slice none 0 0)
    have hg1 := eP (gbel (eP (World.grownBy.refl w (some R)) _) hb1) (.cells #[.int .i64 k, .int .i64 n, .slice none 0 0] 230)
    have hr1 := ((HR.out.below hb0).below hb1).below ((Below.refl w1.heap.size w1).alloc (Nat.le_refl _) (.cells #[.int .i64 k, .int .i64 n, .slice none 0 0] 230))
    have hs1 : w.heap.size + 1 ≤ w1.heap.size := by have := hb1.size; simpa using this
    obtain ⟨r1, r2⟩ := hr1.cell1
    have H6 := aj (h6.set (b' := R) (q := 1) (by omega) (.int .i64 ((m + 1 : Nat) : Int)))
    have H8 := aj (h8.set (b' := R) (q := 1) (by omega) (.int .i64 ((m + 1 : Nat) : Int)))
    have HG := aj (gsetR (q := 1) hg1 (.int .i64 ((m + 1 : Nat) : Int)))
    have HR1 := aj (rb_many hr1 (m + 1))
    rw [show ((m + 1 : Nat) : Int) = (m : Int) + 1 by omega] at H6 H8 HG HR1
    obtain ⟨c0, c1, c2⟩ := H6.out.cells
    obtain ⟨f0, f1, f2⟩ := H6.out.free
    obtain ⟨d0, d1, d2⟩ := H8.out.cells
    clear h6 h8 hg1 hb1 hr1
    go_wp2_with (go_at_call 186; refine (Hh.out _).mono ?_; rintro e w' ⟨rfl, rfl⟩)
    exact bodyPost_ret ((H6.out.put k n (.slice none 0 0)).ret (t := 6) (u := 7) rfl rfl) rfl ⟨.ok k n .nil ws (m + 1), ⟨HP.out, by omega, by omega, [], rfl⟩, gput HG.out (Nat.le_refl _) _ _ _, _, rfl, dI.nil _ _, HR1.out.put (by omega) (by omega) _ _ _⟩
   | true =>
    have Hh := aj (fun W => jO k W)
    rw [hk] at Hh
    have HK := aj hk
    clear hk
    go_enter Tryz.func148, Tryz.ntmps148
    go_wp2_with fail
    refine Hc.out.mono ?_
    rintro e w1 ⟨he, hb1⟩
    obtain rfl := he
    have h6 := ((aA.new w 0 0 (.slice none 0 0)).step hb1).step ((Below.refl w1.heap.size w1).alloc (Nat.le_refl _) (.cells #[.int .i64 k, .int .i64 n, .slice none 0 0] 230))
    have h8 := aA.new w1 k n (.slice none 0 0)
    have hg1 := eP (gbel (eP (World.grownBy.refl w (some R)) _) hb1) (.cells #[.int .i64 k, .int .i64 n, .slice none 0 0] 230)
    have hr1 := ((HR.out.below hb0).below hb1).below ((Below.refl w1.heap.size w1).alloc (Nat.le_refl _) (.cells #[.int .i64 k, .int .i64 n, .slice none 0 0] 230))
    have hs1 : w.heap.size + 1 ≤ w1.heap.size := by have := hb1.size; simpa using this
    obtain ⟨r1, r2⟩ := hr1.cell1
    have H6 := aj (h6.set (b' := R) (q := 1) (by omega) (.int .i64 ((m + 1 : Nat) : Int)))
    have H8 := aj (h8.set (b' := R) (q := 1) (by omega) (.int .i64 ((m + 1 : Nat) : Int)))
    have HG := aj (gsetR (q := 1) hg1 (.int .i64 ((m + 1 : Nat) : Int)))
    have HR1 := aj (rb_many hr1 (m + 1))
    rw [show ((m + 1 : Nat) : Int) = (m : Int) + 1 by omega] at H6 H8 HG HR1
    obtain ⟨W3, hW3⟩ : ∃ W3, (w1.alloc (.cells #[.int .i64 k, .int .i64 n, .slice none 0 0] 230)).setCell ⟨R, 1, none⟩ (.int .i64 ((m : Int) + 1)) = W3 := ⟨_, rfl⟩
    have hs3 : W3.heap.size = w1.heap.size + 1 := by rw [← hW3]; simp [World.setCell]
    obtain ⟨c0, c1, c2⟩ := H6.out.cells
    obtain ⟨f0, f1, f2⟩ := H6.out.free
    obtain ⟨d0, d1, d2⟩ := H8.out.cells
    clear h6 h8 hg1 hb1 hr1
    have HW3 := aj hW3
    clear hW3
    have hdm : (d : Int) ≤ 6 := by omega
    go_wp2_with (go_at_call 186; refine (Hh.out _).mono ?_; rintro e w' ⟨rfl, rfl⟩)
    rw [HW3.out] at H6 H8 HG HR1 ⊢
    have hE3 := HE.out.grown HG.out hR
    refine (block_any N HH.out x k n ws d m R G W3 hN hd (by omega) HWW.out.tail HX.out HK.out HR1.out hE3 hR).mono ?_
    rintro e w2 ⟨res, hop, hg2, hres⟩
    have h6 := H6.out.grown hg2 (by omega)
    have h8 := H8.out.grown hg2 (by omega)
    have hg3 := HG.out.trans hg2
    have hs2 := hg2.size
    clear c0 c1 c2 f0 f1 f2 d0 d1 d2 r1 r2
    cases res with
    | err c =>
     obtain rfl := hres
     have hc0 := hop.2
     have hci : (c == 0) = false := beq_eq_false_iff_ne.2 hc0
     have HP := aj hop.1
     have H6' := aj h6
     have HG3 := aj hg3
     obtain ⟨c0, c1, c2⟩ := h6.cells
     obtain ⟨f0, f1, f2⟩ := h6.free
     clear hop h6 h8 hg3 hg2
     go_wp2
     exact bodyPost_ret ((H6'.out.put 0 0 (.slice none 0 0)).ret (t := 6) (u := 7) rfl rfl) rfl ⟨.err c, ⟨HP.out, hc0⟩, gput HG3.out (Nat.le_refl _) _ _ _, rfl⟩
    | ok k' n' b ws' m' =>
     obtain ⟨rfl, rfl, v, rfl, hown, hr2⟩ := hres
     obtain ⟨a, cap, rfl⟩ := hown.len
     have HP := aj hop
     have H6' := aj (h6.set (b' := w1.heap.size) (q := 2) (by omega) (.slice a b.len cap))
     have H8' := aj (h8.put2 (.slice a b.len cap))
     have HG3 := aj (gset (b := w1.heap.size) (q := 2) hg3 (by omega) (.slice a b.len cap))
     have HO := aj hown
     have HR2 := aj (hr2.set (b := w1.heap.size) (q := 2) (by omega) (by omega) (.slice a b.len cap))
     obtain ⟨c0, c1, c2⟩ := H6'.out.cells
     obtain ⟨f0, f1, f2⟩ := H6'.out.free
     obtain ⟨d0, d1, d2⟩ := H8'.out.cells
     obtain ⟨p0, p1, p2⟩ := h8.cells
     obtain ⟨q0, q1, q2⟩ := h8.free
     clear hop h6 h8 hg3 hg2 hown hr2
     go_wp2
     exact bodyPost_ret ((H6'.out.put k' n' (.slice a b.len cap)).ret (t := 6) (u := 7) rfl rfl) rfl ⟨.ok k' n' b ws' m', HP.out, gput HG3.out (Nat.le_refl _) _ _ _, _, rfl, (HO.out.keep (fun j hj hlt => by rw [Below.heap_setCell _ _ _ _ (by show j ≠ w.heap.size; omega), Below.heap_setCell _ _ _ _ (by show j ≠ w.heap.size; omega), Below.heap_setCell _ _ _ _ (by show j ≠ w.heap.size; omega), Below.heap_setCell _ _ _ _ (by show j ≠ w1.heap.size; omega)])).lower (by omega), HR2.out.put (by omega) (by omega) _ _ _⟩
structure LL (R G d : Nat) (ws0 : List (List UInt8)) (m0 : Nat) (w : World) (ws : List (List UInt8)) (m : Nat) (v : Value) (wr : World) : Prop where
 own : ∃ acc, dI w.heap.size wr v acc ∧ acc.len ≤ m ∧ ∀ r, PL d ws m r → PL d ws0 m0 (r.pre acc)
 grown : w.grownBy wr (some R)
 rb : RB wr R G ws m
 env : iu wr
 ww : WW ws
 many : m ≤ 128
theorem list_all : ∀ N, ListC N := by
 intro N
 induction N with
 | zero => intro ws d m R G w h; omega
 | succ N IH =>
  intro ws0 d m0 R G w hN hd hm0 hW0 hr0 hE0 hR
  have HH := aj IH
  have hstart := aj (LL.mk (R := R) (G := G) (d := d) (ws0 := ws0) (m0 := m0) (w := w) (v := .slice none 0 0) ⟨.nil, dI.nil _ _, by simp [Fo.len], fun r hr => by rw [Rs.pre_nil]; exact hr⟩ (World.grownBy.refl w _) hr0 hE0 hW0 hm0)
  obtain ⟨i0, hi, hz0, hz1, hz2⟩ := info_parts Tryz.infoOp
  have hRl := hr0.lt
  have hGl := hr0.2.1
  have hdi : (0 : Int) ≤ d := by omega
  clear IH hr0 hE0 hW0
  go_enter Tryz.func104, Tryz.ntmps104
  go_wp2
  go_loopg [6] ws0.length (fun gf v wr => ∃ (ws : List (List UInt8)) (m : Nat), ws.length = gf ∧ gf ≤ N ∧ LL R G d ws0 m0 w ws m v wr)
  case atStart => exact ⟨ws0, m0, rfl, by omega, hstart.out⟩
  case round =>
   obtain ⟨ws, m, hlen, hgN, hLL⟩ := hrel
   have HL := aj hLL
   cases ws with
   | nil =>
    have Hc := aj (next_nil R G m wr hLL.rb)
    obtain ⟨acc, hown, hal, hpl⟩ := hLL.own
    obtain ⟨a, cap, hv⟩ := hown.len
    have HO := aj hown
    by_cases hd0 : d = 0
    ·subst hd0
     have HP := aj (hpl _ (PL.end0 m))
     subst hv
     clear hLL hpl hown hlen
     go_wp2_with (go_at_call 147; refine Hc.out.mono ?_; rintro e w1 ⟨rfl, rfl⟩)
     go_ret2
     refine ⟨_, HP.out, HL.out.grown, _, rfl, ?_, HL.out.rb⟩
     rw [Fo.app_nil]
     exact HO.out
    ·have hd1 : (0 : Int) < d := by omega
     have HP := aj (hpl _ (PL.endB (d := d) (by omega) m))
     subst hv
     clear hLL hpl hown hlen
     go_wp2_with (go_at_call 147; refine Hc.out.mono ?_; rintro e w1 ⟨rfl, rfl⟩)
     go_ret2
     exact ⟨_, HP.out, HL.out.grown, rfl, by decide⟩
   | cons x ws =>
    simp only [List.length_cons] at hlen
    have hwl := hLL.ww.1
    simp only [List.length_cons] at hwl
    have Hc := aj (pf R G m x ws wr hLL.rb (by omega))
    obtain ⟨acc, hown, hal, hpl⟩ := hLL.own
    obtain ⟨a, cap, hv⟩ := hown.len
    have HO := aj hown
    have HPL := aj hpl
    by_cases hsh : x = ee ∧ 0 < d
    ·obtain ⟨rfl, hd0⟩ := hsh
     have hd1 : (0 : Int) < d := by omega
     have hx1 : (ee == [93]) = true := by decide
     have HP := aj (hpl _ (PL.shut hd0 ws m))
     subst hv
     clear hLL hpl hown hlen
     go_wp2_with (go_at_call 147; refine Hc.out.mono ?_; rintro e w1 ⟨rfl, hg1, hr1⟩)
     go_ret2
     refine ⟨_, HP.out, HL.out.grown.trans hg1, _, rfl, ?_, hr1⟩
     rw [Fo.app_nil]
     exact HO.out.keep (fun k hk hlt => hg1.block k hlt (fun e => by injection e; omega))
    ·have HSH := aj hsh
     subst hv
     clear hLL hpl hown hsh
     have hcl : ((x == [93]) = true ∧ (d : Int) ≤ 0) ∨ (x == [93]) = false := by
      by_cases hx : x = ee
      ·left
       refine ⟨by rw [hx]; decide, ?_⟩
       by_cases h0 : d = 0
       ·omega
       ·exact absurd ⟨hx, by omega⟩ HSH.out
      ·exact .inr (beq_eq_false_iff_ne.2 hx)
     have Hop := aj (fun w1 (hg1 : wr.grownBy w1 (some R)) (hr1 : RB w1 R G ws m) => op_any N HH.out x ws d m R G w1 (by omega) hd HL.out.many HL.out.ww HSH.out hr1 (HL.out.env.grown hg1 hR) hR)
     rcases hcl with ⟨hx1, hd1⟩ | hx1
     all_goals
      go_wp2_with (go_at_call 147; refine Hc.out.mono ?_; rintro e w1 ⟨rfl, hg1, hr1⟩)
      refine (Hop.out w1 hg1 hr1).mono ?_
      rintro e w2 ⟨res, hop, hg2, hres⟩
      have hs1 := hg1.size
      have hs2 := hg2.size
      have hs0 := HL.out.grown.size
      cases res with
      | err c =>
       obtain rfl := hres
       have hc0 := hop.2
       have hci : (c == 0) = false := beq_eq_false_iff_ne.2 hc0
       have HP := aj (HPL.out _ hop.1)
       have HG := aj ((HL.out.grown.trans hg1).trans hg2)
       clear hop hg1 hg2 hr1
       go_wp2
       go_ret2
       exact ⟨_, HP.out, eP HG.out _, rfl, hc0⟩
      | ok k n b ws' m' =>
       obtain ⟨v, rfl, hown, hr2⟩ := hres
       obtain ⟨hop1, hop2, hop3, u, hu⟩ := hop
       obtain ⟨a2, cap2, rfl⟩ := hown.len
       have HV := aj hown
       have HP := aj hop1
       have HU := aj hu
       have HR2 := aj hr2
       have HG := aj (hg1.trans hg2)
       have HO2 := aj (HO.out.keep (w' := w2) (fun j hj hlt => (hg1.trans hg2).block j hlt (fun e => by injection e; omega)))
       obtain ⟨l, hol, hrl⟩ := HO2.out
       have hll := hrl.len
       have hol' := aj hol
       have hrl' := aj hrl
       have Hll := aj hll
       have hub : ∀ j, (Value.slice a acc.len cap).ownBlock = some j → j < wr.heap.size := by
        intro j hj
        obtain ⟨l', ho', _⟩ := HO.out
        exact (ho'.lt j hj).2
       have HUB := aj hub
       have hl1 : l.length + 1 ≤ 129 := by have := HL.out.many; omega
       clear hop1 hu hown hr2 hol hrl hll hub hg1 hg2 hr1
       have hb3 := ((Below.refl w2.heap.size w2).alloc (Nat.le_refl _) (.cells #[.int .i64 k, .int .i64 n, .slice a2 b.len cap2] 230)).alloc (by simp) (.cells #[.int .i64 k, .int .i64 n, .slice a2 b.len cap2] 230)
       have H3 := aj hb3
       clear hb3
       go_wp2_with (at_builtin; refine wpList_append_own_at _ rfl _ _ 106 rfl w.heap.size 230 i0 _ 3 40 Tryz.underlying106 hi hz0 hz1 hz2 rfl (by decide) (.slice a acc.len cap) l.length (ef l) rfl (fi hol'.out H3.out) ⟨w2.heap.size + 1, 0, none⟩ 1 1 [.int .i64 k, .int .i64 n, .slice a2 b.len cap2] rfl rfl ?cN (op_cells _ _ _ _ _) ?c3 ?c4 ?c5 ?_)
       case cN => exact lk (by have := new3 (w2.alloc (.cells #[.int .i64 k, .int .i64 n, .slice a2 b.len cap2] 230)) (.int .i64 k) (.int .i64 n) (.slice a2 b.len cap2) 230; simpa using this)
       case c3 => unfold maxLen; omega
       case c4 => omega
       case c5 => simp; omega
       intro v3 w3 hown3 hgrow3 _ hat3
       have hin : FS (QX w.heap.size (.slice a acc.len cap)) ((w2.alloc (.cells #[.int .i64 k, .int .i64 n, .slice a2 b.len cap2] 230)).alloc (.cells #[.int .i64 k, .int .i64 n, .slice a2 b.len cap2] 230)) (.slice a2 b.len cap2) b := by
        refine inner_fs HV.out.fs (fun j hj hlt => H3.out.block j hlt) (by omega) (fun j hj => ?_)
        have := HUB.out j hj
        omega
       have hnew := dI.snoc (fi hol'.out H3.out) (mH hrl'.out H3.out) hin hown3 hgrow3 (by simpa using hat3)
       have hgn : w.grownBy w3 (some R) := by
        have hg3 := (HL.out.grown.trans HG.out).trans (eO H3.out (some R))
        refine ⟨hgrow3.os.trans hg3.os, hgrow3.tape.trans hg3.tape, hgrow3.output.trans hg3.output, Nat.le_trans hg3.size hgrow3.size, fun j hj hne => (hgrow3.block j (by simp; omega) (fun e => ?_)).trans (hg3.block j hj hne)⟩
        have := jP hol'.out j e.symm
        omega
       have hob : ∀ j, j < w.heap.size → w3.heap[j]? = w2.heap[j]? := fun j hj => (hgrow3.block j (by simp; omega) (fun e => by have := jP hol'.out j e.symm; omega)).trans (H3.out.block j (by omega))
       have hrn : RB w3 R G ws' m' := HR2.out.keep (hob R hRl) (hob G hGl) (by have := hgrow3.size; simp at this; omega)
       have hwn : WW ws' := by have := HL.out.ww.tail; rw [HU.out] at this; exact this.suffix
       have hen : iu w3 := (HL.out.env.grown HG.out hR).of_blocks (fun j hj => hob j (by have := HL.out.env.size; omega)) (by have := hgrow3.size; simp at this; omega)
       have hln : ws'.length ≤ ws.length := by rw [HU.out]; simp
       have HF := aj (LL.mk (R := R) (G := G) (d := d) (ws0 := ws0) (m0 := m0) (w := w) ⟨_, hnew, by rw [Fo.len_app]; simp only [Fo.len]; omega, fun r hr => by rw [← Rs.pre_pre]; exact HPL.out _ (HP.out r hr)⟩ hgn hrn hen hwn hop2)
       clear hown3 hgrow3 hat3 hin hnew hgn hob hrn hwn hen
       go_wp2
       go_roundg ws'.length
       case measure => omega
       case rel => exact ⟨ws', m', rfl, by omega, HF.out⟩
theorem rb_new {w1 : World} {base : Nat} {v : Value} {ws : List (List UInt8)} (h : fo w1 base v (ws.map ba)) (h7 : 8 ≤ w1.heap.size) : ∃ G, RB (w1.alloc (.cells #[v, .int .i64 0] 165)) w1.heap.size G ws 0 := by
 rcases h.2 with ⟨rfl, h0⟩ | ⟨g, cap, cur, rfl, _, hb, hc, _, _, ht⟩
 ·have hw : ws = [] := by simpa using h0
  subst hw
  exact ⟨0, by omega, by simp, none, 0, 0, heap_alloc_new w1 _, by simp, .inl rfl, fun i x hx => by simp at hx⟩
 ·have hg : g < w1.heap.size := (Array.getElem?_eq_some_iff.1 hb).1
  refine ⟨g, by omega, by simp; omega, some ⟨g, 0, none⟩, cap, 0, ?_, by simpa using hc, .inr rfl, fun i x hx => ?_⟩
  ·have := heap_alloc_new w1 (.cells #[.slice (some ⟨g, 0, none⟩) (ws.map ba).length cap, .int .i64 0] 165)
   rw [this]
   simp
  ·rw [World.cell?_of_block (a := ⟨g, 0 + i, none⟩) (Below.heap_alloc _ _ _ hg)]
   exact dZ hb ht i x hx
theorem pg (s : ByteArray) (w : World) (hs : s.size ≤ 140737488351232) (hE : iu w) :
  Calls Tryz.prog 60 #[.string s] w fun e w' => ∃ r, cG s r ∧ Below w.heap.size w w' ∧ PRes w w' e r := by
 by_cases h5 : 512 < s.size
 ·have h5i : (512 : Int) < (s.size : Int) := by omega
  have HP : Hid (cG s (.err 2)) := by unfold Hid cG; rw [if_pos h5]
  go_enter Tryz.func60, Tryz.ntmps60
  go_wp2
  go_ret2
  exact ⟨_, HP.out, Below.refl _ _, rfl, by decide⟩
 ·have h5i : ¬ (512 : Int) < (s.size : Int) := by omega
  have h5j : (s.size : Int) ≤ 512 := by omega
  have Hf := aj (fields_any s w (by omega))
  have hww := ww_split s (by omega)
  have HE := aj hE
  clear hE
  go_enter Tryz.func60, Tryz.ntmps60
  go_wp2_with (go_at_call 102; refine Hf.out.mono ?_)
  rintro e w1 v rfl hown hb1
  have hE1 := HE.out.low hb1
  obtain ⟨G, hrb⟩ := rb_new (ws := aD [] (L s)) hown hE1.size
  have hb2 := (Below.refl w1.heap.size w1).alloc (Nat.le_refl _) (.cells #[v, .int .i64 0] 165)
  have hL := list_all _ (aD [] (L s)) 0 0 w1.heap.size G _ (Nat.lt_succ_self _) (by omega) (by omega) hww hrb (hE1.low hb2) hE1.size
  rw [show ((0 : Nat) : Int) = 0 from rfl] at hL
  have HL := aj hL
  have HB := aj (hb1.trans (hb2.mono hb1.size))
  have hs1 := hb1.size
  obtain ⟨a, cap, rfl⟩ := fo.shape hown
  clear hL hrb hown hb1 hb2 hE1
  go_wp2_with (go_at_call 104; refine HL.out.mono ?_)
  rintro e w3 ⟨r, hp, hg, hres⟩
  have hbel := HB.out.grown hg (by simp; omega) (fun k hk => by injection hk; omega)
  have HP : Hid (cG s r) := by unfold Hid cG; rw [if_neg h5]; exact hp
  have HBE := aj hbel
  clear hp hbel hg
  cases r with
  | err c =>
   obtain ⟨rfl, hc0⟩ := hres
   go_wp2
   go_ret2
   exact ⟨_, HP.out, HBE.out, rfl, hc0⟩
  | ok f ws' m' =>
   obtain ⟨v, rfl, hown, _⟩ := hres
   have HO := aj hown
   obtain ⟨a', cap', rfl⟩ := hown.len
   clear hown
   go_wp2
   go_ret2
   exact ⟨_, HP.out, HBE.out, _, rfl, HO.out.lower (by simp; omega)⟩
end Go.Proofs.YtclcgakfmcofaaaGreatDoor
