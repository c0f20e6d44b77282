import Derived.Test.YtonpahhcfgdeoaaDoorQPB4PB5SB2SB3
import Derived.Test.YtonpahhcfgdeoaaDoorQD1D2D3D4SG1
import Derived.Deep.AppendLies
import Derived.Test.YtonpahhcfgdeoaaDoorQYS1YX1YB4W6W14YB5YT0
import Derived.Deep.RegionHeld3
import Derived.Deep.QuietTactic
import Derived.BigQuiet
import Derived.RangeFuncNested
import Derived.RangeFuncBound
import Derived.RangeFuncCalls
import Derived.RangeFuncLeaves
import Derived.RangeFuncBox
import Derived.Shelf.Abstract
import Derived.Shelf.RegionOpen
import Derived.WalkKit
import Derived.OwnWalkIn
import Derived.TacticsInMore
import Derived.LoopNIn
import Derived.LoopIn
import Derived.Test.YtonpahhcfgdeoaaDoorQPlainW1MemMem2Mem3W9
import Derived.Test.YtonpahhcfgdeoaaDoorQYB1YB2W2W3
import Derived.Test.YtonpahhcfgdeoaaDoorQZ4W15
import Derived.Test.YtonpahhcfgdeoaaDoorQW4Plain4PB1
/- The walk of l2Leads, the specification's search for what a term leads to. -/
namespace Go.Proofs.YtonpahhcfgdeoaaDoor
open Go.RowKit
set_option linter.unusedVariables false
set_option linter.unusedSimpArgs false

theorem tot_sum (s : List B) : (s.map fun x => x.t.length).sum = tot s := by
  induction s with
  | nil => rfl
  | cons x s ih => simp [tot, ih]
theorem getB_len {s : List B} (u : Int) : (getB s u).length ≤ tot s := by
  by_cases h0 : getB s u = []
  · rw [h0]; simp
  · obtain ⟨y, hy, _, e⟩ := getB_mem h0
    rw [← e]; exact tot_mem hy

/-- What an append of one number leaves of two rows. -/
theorem app_two {wr w1 : World} {base lo g' cap' : Nat} {v vm : Value} {z mo : List Int} {x : Int} (hown : OwnI wr base v z) (hmo : OwnI wr lo vm mo) (hd : vm.ownBlock = none ∨ vm.ownBlock ≠ v.ownBlock)
    (hown' : w1.ownsRow base 3 1 (.slice (some ⟨g', 0, none⟩) (z.length + 1) cap') (z.length + 1) (nums z ++ [.int .i64 x])) (hgrow : (wr.alloc (.cells #[.int .i64 x] 3)).grownBy w1 v.ownBlock) (hat : v.ownBlock = some g' ∨ g' = wr.heap.size + 1) :
    OwnI w1 base (.slice (some ⟨g', 0, none⟩) (z ++ [x]).length cap') (z ++ [x]) ∧ OwnI w1 lo vm mo ∧ (vm.ownBlock = none ∨ vm.ownBlock ≠ (Value.slice (some ⟨g', 0, none⟩) (z ++ [x]).length cap').ownBlock) := by
  refine ⟨?_, World.ownsRow.kept (World.ownsRow.alloc hmo _) hgrow hd, ?_⟩
  · unfold OwnI
    rw [show nums (z ++ [x]) = nums z ++ [.int .i64 x] by simp [nums], show (z ++ [x]).length = z.length + 1 by simp]
    exact hown'
  · rcases hd with hd | hd
    · exact .inl hd
    · right
      rcases hat with hat | hat
      · show vm.ownBlock ≠ some g'
        rw [← hat]; exact hd
      · intro e
        have := (hmo.lt g' e).2
        omega

set_option maxRecDepth 100000 in
set_option maxHeartbeats 4000000 in
theorem l2Leads_any (ao : Option Addr) (cap : Nat) (s : List B) (bo : Option Addr) (cp : Nat) (t : List C) (w : World) (hs : s.length ≤ 1048576) (ht : t.length ≤ 1048576) (hst : tot s ≤ 1048576) (hA : RowB w ao s) (hT : Row w bo t) :
    Calls Tryd.prog 76 #[.slice ao s.length cap, .slice bo t.length cp] w fun e w' => ∃ v out, e = .returned v ∧ OwnI w' w.heap.size v out ∧ (∀ x, x ∈ out ↔ Reach s t x) ∧ out.length ≤ 2097152 ∧ Below w.heap.size w w' := by
  obtain ⟨i0, hi, hz0, hz1, hz2⟩ := info_parts Tryd.infoInt
  have hN : (allV s t).length ≤ 2097152 := by rw [allV_len, tot_sum]; omega
  go_enter Tryd.func76, Tryd.ntmps76
  go_wp2_with fail
  refine (specTrmFree_any bo cp t _ ht hT).mono ?_
  rintro e w1 ⟨v1, rfl, hO1, hb1⟩
  go_wp2
  go_loopw [5, 6] (fun o i wr => ∃ (k : Nat) (out : List Int), i = .int .i64 k ∧ OwnI wr w.heap.size o out ∧ Lead s t out k ∧ Below w.heap.size w wr) (fun _ i _ => 2097152 - (intOf i).toNat)
  case atStart => exact ⟨0, _, rfl, hO1, Lead.begin s t, hb1⟩
  case round =>
    obtain ⟨k, out, rfl, hO, hL, hB⟩ := hrel
    have hol : out.length ≤ 2097152 := Nat.le_trans hL.len hN
    have hkl := hL.kle
    have HL := hide hL
    clear hL hO1
    obtain ⟨oa, oc, rfl, hRo⟩ := hO.shape
    by_cases hlt : k < out.length
    · obtain ⟨g, off, ea, hAo⟩ : ∃ b off, oa = some ⟨b, off, none⟩ ∧ AtI wr b off out := by
        rcases hRo with h | h
        · rw [h] at hlt; simp at hlt
        · exact h
      subst ea
      have c0 := hAo k hlt
      have HM : Hid (MoreAt s t k out[k] (freeOf (getB s out[k])) 0 out) := MoreAt.start (unhide HL) hlt
      obtain ⟨u, hu⟩ : ∃ u, u = out[k] := ⟨_, rfl⟩
      rw [← hu] at c0 HM
      clear hu
      have HG := hide (l2Get_any ao cap s u wr hs (hA.below hB))
      have hgl : (getB s u).length ≤ 1048576 := Nat.le_trans (getB_len u) hst
      go_wp2_with fail
      refine (unhide HG).mono ?_
      clear HG
      rintro e w2 ⟨ga, gc, rfl, _, _, hRg, hb2⟩
      go_wp2_with fail
      refine (specTrmFree_any ga gc (getB s u) _ hgl hRg).mono ?_
      rintro e w3 ⟨vm, rfl, hOm, hb3⟩
      have hO3 : OwnI w3 w.heap.size (.slice (some ⟨g, off, none⟩) out.length oc) out := (hO.below hb2).below hb3
      have hd3 : vm.ownBlock = none ∨ vm.ownBlock ≠ (Value.slice (some ⟨g, off, none⟩) out.length oc).ownBlock := by
        cases hv : vm.ownBlock with
        | none => exact .inl rfl
        | some q =>
          right
          intro e
          have h1 := (hOm.lt q hv).1
          have h2 := (hO.lt q e.symm).2
          have := hb2.size
          omega
      have hml : (freeOf (getB s u)).length ≤ 1048576 := Nat.le_trans (freeOf_len _) hgl
      obtain ⟨mo, hmo⟩ : ∃ mo, mo = freeOf (getB s u) := ⟨_, rfl⟩
      have HMO := hide hmo
      rw [← hmo] at hOm HM hml
      clear hmo
      obtain ⟨ma, mc, rfl, hRm⟩ := hOm.shape
      have hB3 := bstep (bstep hB hb2) hb3
      have HO := hide hO
      have HD3 := hide hd3
      clear hO hd3 hRo hAo c0 hRg
      obtain ⟨w3s, hw3s⟩ : ∃ n, n = w2.heap.size := ⟨_, rfl⟩
      rw [← hw3s] at hOm
      clear hw3s
      go_wp2
      go_loopw [5, 8] (fun o i wq => ∃ (j : Nat) (out : List Int), j ≤ mo.length ∧ i = .int .i64 j ∧ OwnI wq w.heap.size o out ∧ OwnI wq w3s (.slice ma mo.length mc) mo ∧ ((Value.slice ma mo.length mc).ownBlock = none ∨ (Value.slice ma mo.length mc).ownBlock ≠ o.ownBlock) ∧ MoreAt s t k u mo j out ∧ Below w.heap.size w wq) (fun _ i _ => mo.length - (intOf i).toNat)
      case atStart => exact ⟨0, out, Nat.zero_le _, rfl, hO3, hOm, unhide HD3, unhide HM, hB3⟩
      case round =>
        clear hO3 hOm HM hB3 HO HD3 hol hkl hlt HL hRm
        obtain ⟨j, ou, hj, rfl, hO, hOm, hd, hM, hB⟩ := hrel
        have hol : ou.length ≤ 2097152 := Nat.le_trans hM.1.len hN
        have HM := hide hM
        have HDD := hide hd
        clear hM hd
        obtain ⟨oa, oc, rfl, hRo⟩ := hO.shape
        have hRm := hOm.row
        by_cases hlt : j < mo.length
        · rcases hRm with h | ⟨mb, moff, rfl, hAm⟩
          · rw [h] at hlt; simp at hlt
          have d0 := hAm j hlt
          have HOLD : Hid (mo[j] ∈ ou → MoreAt s t k u mo (j + 1) ou) := fun h => (unhide HM).old hlt h
          have HNEW : Hid (mo[j] ∉ ou → MoreAt s t k u mo (j + 1) (ou ++ [mo[j]])) := fun h => by
            have hmo := unhide HMO
            have hm := unhide HM
            subst hmo
            exact hm.new hlt h
          obtain ⟨x, hx⟩ : ∃ x, x = mo[j] := ⟨_, rfl⟩
          rw [← hx] at d0 HOLD HNEW
          clear hx
          have hmbl : mb < wr.heap.size := World.block_lt_of_cell? wr ⟨mb, _, none⟩ d0
          by_cases hin : x ∈ ou
          · have hdd : decide (x ∈ ou) = true := by simpa using hin
            have HI := hide (unhide HOLD hin)
            go_wp2_with (go_at_call 74; refine (l1Has_any oa oc ou x _ (by unfold maxLen; omega) hRo).mono ?_; rw [hdd]; rintro e w4 ⟨rfl, rfl⟩)
            go_roundw
            case rel => exact ⟨j + 1, ou, by omega, by go_num, hO, hOm, unhide HDD, unhide HI, hB⟩
            case measure => simp [intOf]; omega
          · have hdd : decide (x ∈ ou) = false := by simpa using hin
            have HI := hide (unhide HNEW hin)
            have HA2 := hide (fun (w1 : World) (g' cap' : Nat) => app_two (w1 := w1) (g' := g') (cap' := cap') (x := x) hO hOm (unhide HDD))
            have hd1 := ((cell_below wr (.cells #[.int .i64 x] 3)).cell (p := ⟨mb, moff + j, none⟩) hmbl).trans d0
            go_wp2_with (first | (go_at_call 74; refine (l1Has_any oa oc ou x _ (by unfold maxLen; omega) hRo).mono ?_; rw [hdd]; rintro e w4 ⟨rfl, rfl⟩) | (at_builtin; refine wpList_append_lies _ rfl _ _ 90 rfl w.heap.size 3 i0 (.int .i64 0) 1 8 Tryd.underlying90 hi hz0 hz1 hz2 rfl (by decide) _ ou.length _ rfl (World.ownsRow.alloc hO _) ⟨w4.heap.size, 0, none⟩ 1 1 [.int .i64 x] rfl rfl (cell_one_new _ _ _) (by simp [Value.oneCell']) (by omega) (by unfold maxLen; omega) (by omega) (by have := hB.size; simp; omega) (w4.heap.size + 1) (by simp) ?_))
            intro g' cap' w5 hown' hgrow hat hgl'
            have R := unhide HA2 _ _ _ hown' hgrow hat
            have hB5 : Below w.heap.size w w5 := (hB.alloc hB.size _).grown hgrow (by have := hB.size; simp; omega) (fun q e => (hO.lt q e).1)
            have HR := hide R
            have hll : (ou ++ [x]).length = ou.length + 1 := by simp
            rw [hll] at HR
            clear R hown' hgrow hat hgl' hO hOm HA2 d0 hd1 hRo hAm
            go_wp2
            go_roundw
            case rel => exact ⟨j + 1, ou ++ [x], by omega, by go_num, (unhide HR).1, (unhide HR).2.1, (unhide HR).2.2, unhide HI, hB5⟩
            case measure => simp [intOf]; omega
        · have hjl : j = mo.length := by omega
          subst hjl
          have HD : Hid (Lead s t ou (k + 1)) := by
            have hm := unhide HM
            have hmo := unhide HMO
            subst hmo
            exact hm.done
          have hk2 : k + 1 ≤ 2097152 := Nat.le_trans (unhide HD).kle hol
          go_wp2
          go_roundw
          case rel => exact ⟨k + 1, ou, by go_num, hO, unhide HD, hB⟩
          case measure => simp [intOf]; omega
    · have e : k = out.length := by omega
      subst e
      go_wp2
      go_ret
      exact ⟨_, out, rfl, hO, (unhide HL).done, hol, hB⟩
end Go.Proofs.YtonpahhcfgdeoaaDoor

/- The walk of the specification's SubOk. -/
namespace Go.Proofs.YtonpahhcfgdeoaaDoor
open Go.RowKit
set_option linter.unusedVariables false
set_option linter.unusedSimpArgs false

/-- The binding at a place is ok. -/
def OkAt (s : List B) (k : Nat) (x : B) : Prop := (0 ≤ x.v ∧ x.v ≤ 99999) ∧ trm x.t = true ∧ ¬ Reach s x.t x.v ∧ ∀ j, (h : j < s.length) → j < k → s[j].v ≠ x.v
def AllOk (s : List B) : Prop := ∀ k, (h : k < s.length) → OkAt s k s[k]
noncomputable def subOk (s : List B) : Bool := @decide (AllOk s) (Classical.propDecidable _)
theorem subOk_yes {s : List B} (h : AllOk s) : subOk s = true := by unfold subOk; simpa using h
theorem subOk_no {s : List B} {k : Nat} (hk : k < s.length) (h : ¬ OkAt s k s[k]) : subOk s = false := by
  unfold subOk
  rw [decide_eq_false_iff_not]
  exact fun h' => h (h' k hk)

end Go.Proofs.YtonpahhcfgdeoaaDoor

/- Trees in memory: their shape, what keeps it; the walks of tell, nodes. -/
namespace Go.Proofs.YtonpahhcfgdeoaaDoor
open Go.RowKit Go.Shelf
set_option linter.unusedVariables false
set_option linter.unusedSimpArgs false
attribute [local go_sem] Oper.semAt_some

/-- What a world keeps of another, but for ints: all that lies in the blocks of S. -/
def KpS (n₀ : Nat) (W W' : World) : Prop := ∀ b i v, b < n₀ → W.cell? ⟨b, i, none⟩ = some v → (∀ q z, v ≠ .int q z) → W'.cell? ⟨b, i, none⟩ = some v

theorem KpS.refl (n₀ : Nat) (W : World) : KpS n₀ W W := fun _ _ _ _ h _ => h
theorem KpS.trans {n₀ : Nat} {A B C : World} (h : KpS n₀ A B) (k : KpS n₀ B C) : KpS n₀ A C := fun b i v hb hc hv => k b i v hb (h b i v hb hc hv) hv
theorem KpS.of_below {n₀ : Nat} {A B : World} (h : Below n₀ A B) : KpS n₀ A B := fun b i v hb hc _ => (h.cell (p := ⟨b, i, none⟩) hb).trans hc

/-- From block p on lies a tree, no higher than f, all of it below n₀; its nodes' blocks, in the order of places, are gs. -/
def Shp (n₀ : Nat) (W : World) : Nat → Nat → List Nat → Prop
  | 0, _, _ => False
  | f + 1, p, gs => ∃ (ks : List (Nat × List Nat)) (ao : Option Addr) (cap : Nat), gs = p :: (ks.map (·.2)).flatten ∧ p < n₀ ∧ ks.length ≤ maxLen ∧ W.cell? ⟨p, 3, none⟩ = some (.slice ao ks.length cap) ∧
      (ks = [] ∨ ∃ q, ao = some ⟨q, 0, none⟩ ∧ q < n₀ ∧ ∀ i, (h : i < ks.length) → W.cell? ⟨q, i, none⟩ = some (.pointer (some ⟨ks[i].1, 0, none⟩))) ∧ ∀ k ∈ ks, Shp n₀ W f k.1 k.2

theorem Shp.kept {n₀ : Nat} {W W' : World} (hk : KpS n₀ W W') : ∀ {f p : Nat} {gs : List Nat}, Shp n₀ W f p gs → Shp n₀ W' f p gs
  | f + 1, p, gs, ⟨ks, ao, cap, hg, hp, hm, hc, hr, hs⟩ => ⟨ks, ao, cap, hg, hp, hm, hk _ _ _ hp hc (fun _ _ h => by cases h), hr.imp_right fun ⟨q, e, hq, h⟩ => ⟨q, e, hq, fun i hi => hk _ _ _ hq (h i hi) (fun _ _ h => by cases h)⟩, fun k hm => (hs k hm).kept hk⟩

theorem Shp.below {n₀ : Nat} {W W' : World} (hk : Below n₀ W W') {f p : Nat} {gs : List Nat} (h : Shp n₀ W f p gs) : Shp n₀ W' f p gs := h.kept (KpS.of_below hk)

theorem room_of_none {F : Fence} (hd : F.depth = none) (k : Nat) : F.room k := fun d h => by rw [hd] at h; cases h
theorem round_anyDepth {F : Fence} (hd : F.depth = none) {m m' : Nat} {P : Program} {l : Nat} {f : FuncId} {tmps : Array Value} {assign body : Code} {w : World} {R : Ending → World → Prop}
    (h : RoundIn F m P l f tmps assign body w R) : RoundIn F m' P l f tmps assign body w R := ⟨h.1, fun c cs _ => h.2 c cs (room_of_none hd _)⟩
theorem yield_anyDepth {F : Fence} (hd : F.depth = none) {m : Nat} (m' : Nat) {P : Program} {l : Nat} {args : Array Value} {W : World} {R : Ending → World → Prop} (h : YieldAt F m P l args W R) : YieldAt F m' P l args W R := by
  obtain ⟨fn, tmps, assign, body, hy, hR⟩ := h
  exact ⟨fn, tmps, assign, body, hy, round_anyDepth hd hR⟩

theorem pre_of_append {α : Type} (a b : List α) : a <+: a ++ b := ⟨b, rfl⟩

set_option maxRecDepth 100000 in
set_option maxHeartbeats 2000000 in
theorem tell_in {α : Type} (bl : α → Nat) (F : Fence) (hd : F.depth = none) (hfn : F.fn 96) (hro : F.round = none) (l n₀ N : Nat) (J Jx : List α → World → Prop)
    (hY : ∀ m pre x W, J pre W → pre.length < N → YieldAt F m Tryd.prog l #[.pointer (some ⟨bl x, 0, none⟩)] W fun e W' =>
      (e = .returned (.bool true) ∧ J (pre ++ [x]) W' ∧ KpS n₀ W W') ∨ (e = .returned (.bool false) ∧ Jx (pre ++ [x]) W')) :
    ∀ (f n p : Nat) (gs : List Nat) (xs pre : List α) (W : World), Shp n₀ W f p gs → xs.map bl = gs → J pre W → pre.length + xs.length ≤ N →
      CallsIn F n Tryd.prog 96 #[.pointer (some ⟨p, 0, none⟩), .func (.yield l) #[] #[]] W fun e W' =>
        (e = .returned (.bool true) ∧ J (pre ++ xs) W' ∧ KpS n₀ W W') ∨ (e = .returned (.bool false) ∧ ∃ q, q <+: xs ∧ Jx (pre ++ q) W')
  | 0, _, _, _, _, _, _, h, _, _, _ => h.elim
  | f + 1, n, p, gs, xs, pre, W, hT, hxs, hJ, hN => by
    have ih := fun (n p : Nat) (gs : List Nat) (xs pre : List α) (W : World) => tell_in bl F hd hfn hro l n₀ N J Jx hY f n p gs xs pre W
    obtain ⟨ks, ao, cap, rfl, hp, hml, hc, hr, hs⟩ := hT
    cases xs with
    | nil => cases hxs
    | cons x xs =>
      simp only [List.map_cons, List.cons.injEq] at hxs
      obtain ⟨hx, hxs⟩ := hxs
      subst hx
      simp only [List.length_cons] at hN
      have hdd : ∀ k : Nat, (F.depth.isSome = true → 1 ≤ k) := fun k h => by rw [hd] at h; cases h
      obtain ⟨fn, tmps, assign, body, hy, hR⟩ := hY (n - 1) pre x W hJ (by omega)
      refine callsIn_of_wp Tryd.func96 rfl hfn ?_ hro
      simp only [Tryd.ntmps96, List.size_toArray, List.length_cons, List.length_nil, Nat.reduceAdd, Nat.reduceSub, Array.replicate_succ, Array.replicate_zero, List.push_toArray, List.append_toArray, List.nil_append, List.cons_append]
      gi_wp2
      refine hR.mono ?_
      clear hR hy
      rintro e W1 (⟨rfl, hJ1, hk1⟩ | ⟨rfl, hx1⟩)
      · have hc1 := hk1 _ _ _ hp hc (fun _ _ h => by cases h)
        have hk64 : ks.length ≤ 9223372036854775807 := by unfold maxLen at hml; omega
        gi_wp2
        gi_loopw [16] (fun i wr => ∃ (k : Nat) (es bs : List α), k ≤ ks.length ∧ i = .int .i64 k ∧ xs = es ++ bs ∧ bs.map bl = ((ks.drop k).map (·.2)).flatten ∧ J (pre ++ [x] ++ es) wr ∧ KpS n₀ W wr) (fun i _ => ks.length - (intOf i).toNat)
        case atStart => exact ⟨0, [], xs, Nat.zero_le _, rfl, rfl, by simpa using hxs, by simpa using hJ1, hk1⟩
        case round =>
          obtain ⟨k, es, bs, hk, rfl, hab, hbs, hJ2, hk2⟩ := hrel
          by_cases hlt : k < ks.length
          · rcases hr with hr | ⟨q, rfl, hq, hr⟩
            · rw [hr] at hlt; simp at hlt
            have hck := hk2 _ _ _ hq (hr k hlt) (fun _ _ h => by cases h)
            have hsk := (hs _ (List.getElem_mem hlt)).kept hk2
            rw [List.drop_eq_getElem_cons hlt, List.map_cons, List.flatten_cons] at hbs
            obtain ⟨b1, b2, rfl, hb1, hb2⟩ := List.map_eq_append_iff.1 hbs
            have HI := hide (ih (n - 1) _ _ b1 (pre ++ [x] ++ es) wr hsk hb1 hJ2 (by rw [hab] at hN; simp at hN ⊢; omega))
            have HAB := hide hab
            have HB2 := hide hb2
            clear ih hY hs hr hab hbs hb1 hb2 hxs hN hJ hJ1 hJ2 hsk
            gi_wp2_with ((try refine ⟨hdd _, ?_⟩); gi_at_call 96; refine (unhide HI).mono ?_; clear HI; rintro e W3 (⟨rfl, hJ3, hk3⟩ | ⟨rfl, q', hq', hx3⟩))
            · go_roundw
              case rel => exact ⟨k + 1, es ++ b1, b2, by omega, by go_num, by rw [unhide HAB, List.append_assoc], unhide HB2, by simpa [List.append_assoc] using hJ3, hk2.trans hk3⟩
              case measure => simp [intOf]; omega
            · go_ret
              obtain ⟨r, hr'⟩ := hq'
              exact .inr ⟨rfl, x :: (es ++ q'), ⟨r ++ b2, by rw [unhide HAB, ← hr']; simp⟩, by simpa [List.append_assoc] using hx3⟩
          · have e : k = ks.length := by omega
            subst e
            rw [List.drop_length] at hbs
            simp at hbs
            subst hbs
            have HAB := hide hab
            clear hab
            gi_wp2
            go_ret
            refine .inl ⟨rfl, ?_, hk2⟩
            rw [unhide HAB]
            simpa using hJ2
      · gi_wp2
        go_ret
        exact .inr ⟨rfl, [x], ⟨xs, rfl⟩, hx1⟩
set_option maxHeartbeats 1000000 in
theorem nodes1_in {α : Type} (bl : α → Nat) (F : Fence) (hd : F.depth = none) (n : Nat) (hf0 : F.fn 95) (hf1 : F.fn 96) (hro : F.round = none) (l Bt n₀ f p : Nat) (gs : List Nat) (xs : List α) (J Jx : List α → World → Prop)
    (hY : ∀ pre x W, J pre W → pre.length < xs.length → YieldAt F (n - 1) Tryd.prog l #[.pointer (some ⟨bl x, 0, none⟩)] W fun e W' =>
      (e = .returned (.bool true) ∧ J (pre ++ [x]) W' ∧ KpS n₀ W W') ∨ (e = .returned (.bool false) ∧ Jx (pre ++ [x]) W'))
    (W : World) (hBt : W.cell? ⟨Bt, 0, none⟩ = some (.pointer (some ⟨p, 0, none⟩))) (hT : Shp n₀ W f p gs) (hxs : xs.map bl = gs) (h0 : J [] W) :
    CallsIn F n Tryd.prog 95 #[.func (.yield l) #[] #[], .pointer (some ⟨Bt, 0, none⟩)] W fun e W' => (∃ v, e = .returned v) ∧
      ((∃ ys, ys = xs ∧ J ys W') ∨ (∃ pre, pre <+: xs ∧ Jx pre W')) := by
  have hdd : ∀ k : Nat, (F.depth.isSome = true → 1 ≤ k) := fun k h => by rw [hd] at h; cases h
  have hp := hide (tell_in bl F hd hf1 hro l n₀ xs.length J Jx (fun m pre x W hj hl => yield_anyDepth hd m (hY pre x W hj hl)) f (n - 1) p gs xs [] W hT hxs h0 (by simp))
  refine callsIn_of_wp Tryd.func95 rfl hf0 ?_ hro
  simp only [Tryd.ntmps95, List.size_toArray, List.length_cons, List.length_nil, Nat.reduceAdd, Nat.reduceSub, Array.replicate_succ, Array.replicate_zero, List.push_toArray, List.append_toArray, List.nil_append, List.cons_append]
  gi_wp2_with ((try refine ⟨hdd _, ?_⟩); gi_at_call 96; refine (unhide hp).mono ?_; clear hp; rintro e W1 (⟨rfl, hJ1, _⟩ | ⟨rfl, q, hq, hx⟩))
  · go_end0
    exact ⟨⟨_, rfl⟩, .inl ⟨_, rfl, by simpa using hJ1⟩⟩
  · go_end0
    exact ⟨⟨_, rfl⟩, .inr ⟨q, hq, by simpa using hx⟩⟩

set_option maxHeartbeats 1000000 in
theorem nodes_in (F : Fence) (n : Nat) (hfn : F.fn 94) (hro : F.round = none) (p0 : Option Addr) (w : World) :
    CallsIn F n Tryd.prog 94 #[.pointer p0] w fun e w' => e = .returned (.func (.func 95) #[] #[.pointer (some ⟨w.heap.size, 0, none⟩)]) ∧ w' = w.alloc (.cells #[.pointer p0] 65) := by
  refine callsIn_of_wp Tryd.func94 rfl hfn ?_ hro
  simp only [Tryd.ntmps94, List.size_toArray, List.length_cons, List.length_nil, Nat.reduceAdd, Nat.reduceSub, Array.replicate_succ, Array.replicate_zero, List.push_toArray, List.append_toArray, List.nil_append, List.cons_append]
  gi_wp2
  go_ret
  exact ⟨rfl, rfl⟩

theorem nodes_stops {α : Type} (bl : α → Nat) (F : Fence) (hd : F.depth = none) (n : Nat) (hf0 : F.fn 95) (hf1 : F.fn 96) (hro : F.round = none) (Bt n₀ f p : Nat) (gs : List Nat) (xs : List α) (w : World) (hBt : Bt < w.heap.size) (hn₀ : n₀ ≤ w.heap.size)
    (hc : w.cell? ⟨Bt, 0, none⟩ = some (.pointer (some ⟨p, 0, none⟩))) (hT : Shp n₀ w f p gs) (hxs : xs.map bl = gs) :
    SeqStopsK F n Tryd.prog 95 #[.pointer (some ⟨Bt, 0, none⟩)] (fun x : α => #[Value.pointer (some ⟨bl x, 0, none⟩)]) (KpS n₀) (fun ys => ys = xs) (fun pre => pre <+: xs) xs.length w := fun l J Jx W hW _ _ hY h0 =>
  nodes1_in bl F hd n hf0 hf1 hro l Bt n₀ f p gs xs J Jx hY W ((hW.cell (p := ⟨Bt, 0, none⟩) hBt).trans hc) (hT.below (hW.mono hn₀)) hxs h0

theorem kpsK_t {n₀ : Nat} {A B C : World} (h : KpS n₀ A B) (k : KpS n₀ B C) : KpS n₀ A C := h.trans k
theorem kpsK_b {n₀ : Nat} {w : World} (hn : n₀ ≤ w.heap.size) (W : World) (l : Nat) (o o' : Obj) (hl : w.heap.size ≤ l) (h : W.heap[l]? = some o) (h1 : o.isCells = false) (h2 : o.isWalk = false) : KpS n₀ W (W.putObj l o') := KpS.of_below (belowK_b hn W l o o' hl h h1 h2)
end Go.Proofs.YtonpahhcfgdeoaaDoor

/- The walk of list: the places of a tree in new memory. -/
namespace Go.Proofs.YtonpahhcfgdeoaaDoor
open Go.RowKit Go.Shelf
set_option linter.unusedVariables false
set_option linter.unusedSimpArgs false
attribute [local go_sem] Oper.semAt_some
attribute [-go_sem] Go.Builtin.append_

/-- At a node's block lies that place. -/
def Held (n₀ : Nat) (w : World) (x : Nat × C) : Prop := x.1 < n₀ ∧ w.cell? ⟨x.1, 0, none⟩ = some (.int .i64 x.2.k) ∧ w.cell? ⟨x.1, 1, none⟩ = some (.int .i64 x.2.n) ∧ w.cell? ⟨x.1, 2, none⟩ = some (.string x.2.s)

theorem Held.below {n₀ : Nat} {w w' : World} {x : Nat × C} (h : Held n₀ w x) (hb : Below n₀ w w') : Held n₀ w' x :=
  ⟨h.1, (hb.cell (p := ⟨x.1, 0, none⟩) h.1).trans h.2.1, (hb.cell (p := ⟨x.1, 1, none⟩) h.1).trans h.2.2.1, (hb.cell (p := ⟨x.1, 2, none⟩) h.1).trans h.2.2.2⟩

theorem lift_sub {α : Type} {P : α → Prop} : ∀ (z : List α), (∀ x ∈ z, P x) → ∃ xs : List {x : α // P x}, xs.map (·.1) = z
  | [], _ => ⟨[], rfl⟩
  | x :: z, h => by
      obtain ⟨xs, e⟩ := lift_sub z (fun y hy => h y (by simp [hy]))
      exact ⟨⟨x, h x (by simp)⟩ :: xs, by simp [e]⟩

/-- What list is of places. -/
def listed (t : List C) : List C := if trm t then t else []

end Go.Proofs.YtonpahhcfgdeoaaDoor
