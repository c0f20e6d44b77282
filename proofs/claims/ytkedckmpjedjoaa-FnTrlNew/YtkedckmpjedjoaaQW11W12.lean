import Derived.Test.YtkedckmpjedjoaaQW1Mem2Mem3W9
import Derived.OwnWalk
import Derived.Maps.AppendAt
import Derived.RangeFuncBox
import Derived.Test.YtkedckmpjedjoaaQPlainMemOpen
import Derived.Maps.Own
import Derived.Maps.OwnOps
import Derived.Maps.OwnSet
/- Which variables places have: the plain list; the walks of the model's l1Has and TrmFree. -/
namespace Go.Proofs.Ytkedckmpjedjoaa
open Go.RowKit
set_option linter.unusedVariables false
set_option linter.unusedSimpArgs false

/-- The variables so far, and one place more. -/
def addV (acc : List Int) (c : C) : List Int := if c.k = 1 then (if c.n ∈ acc then acc else acc ++ [c.n]) else acc
/-- The variables of places, as they come first. -/
def freeOf (t : List C) : List Int := t.foldl addV []

theorem freeOf_step {t : List C} {k : Nat} (h : k < t.length) : freeOf (t.take (k + 1)) = addV (freeOf (t.take k)) t[k] := by
  rw [List.take_succ_eq_append_getElem h]; unfold freeOf; rw [List.foldl_append]; rfl

theorem addV_len (acc : List Int) (c : C) : (addV acc c).length ≤ acc.length + 1 := by
  unfold addV
  split
  · split
    · omega
    · simp
  · omega

theorem fold_len : ∀ (t : List C) (acc : List Int), (t.foldl addV acc).length ≤ acc.length + t.length
  | [], acc => by simp
  | c :: t, acc => by
      have h1 := fold_len t (addV acc c)
      have h2 := addV_len acc c
      simp only [List.foldl_cons, List.length_cons]
      omega
theorem freeOf_len (t : List C) : (freeOf t).length ≤ t.length := by
  have := fold_len t []
  simpa [freeOf] using this

theorem addV_other {acc : List Int} {c : C} (h : c.k ≠ 1) : addV acc c = acc := by simp [addV, h]
theorem addV_old {acc : List Int} {c : C} (h : c.n ∈ acc) : addV acc c = acc := by simp [addV, h]
theorem addV_new {acc : List Int} {c : C} (h : c.k = 1) (hn : c.n ∉ acc) : addV acc c = acc ++ [c.n] := by simp [addV, h, hn]

set_option maxHeartbeats 1000000 in
theorem l1Has_some (b off cap : Nat) (z : List Int) (n : Int) (w : World) (hm : z.length ≤ maxLen) (hA : AtI w b off z) :
    Calls Try.prog 115 #[.slice (some ⟨b, off, none⟩) z.length cap, .int .i64 n] w fun e w' => e = .returned (.bool (decide (n ∈ z))) ∧ w' = w := by
  unfold maxLen at hm
  go_enter Try.func115, Try.ntmps115
  go_wp2
  go_loop [5] (fun i => ∃ (k : Nat), k ≤ z.length ∧ i = .int .i64 k ∧ n ∉ z.take k) (fun i => z.length - (intOf i).toNat)
  case atStart => exact ⟨0, Nat.zero_le _, rfl, by simp⟩
  case round =>
    obtain ⟨k, hk, rfl, hx⟩ := hrel
    have HX := hide hx
    clear hx
    by_cases hlt : k < z.length
    · have c0 := hA k hlt
      obtain ⟨c, hc⟩ : ∃ c, c = z[k] := ⟨_, rfl⟩
      rw [← hc] at c0
      have HC := hide hc
      clear hc
      by_cases he : c = n
      · have hb : (c == n) = true := by simpa using he
        have HE := hide he
        clear he
        go_wp2
        go_ret
        exact ⟨ret_bool (by have : n ∈ z := by rw [← unhide HE, unhide HC]; exact List.getElem_mem _
                            simp [this]), rfl⟩
      · have hb : (c == n) = false := by simpa using he
        have HE := hide he
        clear he
        go_wp2
        go_round
        case rel =>
          refine ⟨k + 1, by omega, by go_num, ?_⟩
          rw [List.take_succ_eq_append_getElem hlt, List.mem_append]
          rintro (h | h)
          · exact unhide HX h
          · simp at h
            exact unhide HE (by rw [unhide HC, h])
        case measure => simp [intOf]; omega
    · go_wp2
      go_ret
      refine ⟨ret_bool ?_, rfl⟩
      have := unhide HX
      rw [List.take_of_length_le (by omega)] at this
      simp [this]

set_option maxHeartbeats 400000 in
theorem l1Has_none (ao : Option Addr) (cap : Nat) (n : Int) (w : World) :
    Calls Try.prog 115 #[.slice ao 0 cap, .int .i64 n] w fun e w' => e = .returned (.bool false) ∧ w' = w := by
  go_enter Try.func115, Try.ntmps115
  go_wp2
  refine wp_loop_rounds 1 ?_
  rw [rounds_succ]
  go_wp2
  go_ret
  exact ⟨rfl, rfl⟩

theorem l1Has_any (ao : Option Addr) (cap : Nat) (z : List Int) (n : Int) (w : World) (hm : z.length ≤ maxLen) (hA : RowI w ao z) :
    Calls Try.prog 115 #[.slice ao z.length cap, .int .i64 n] w fun e w' => e = .returned (.bool (decide (n ∈ z))) ∧ w' = w := by
  rcases hA with rfl | ⟨b, off, rfl, hA⟩
  · exact l1Has_none ao cap n w
  · exact l1Has_some b off cap z n w hm hA

theorem Try.infoInt : (Try.prog.info? 3).map (fun i => (i.zero, i.size, i.bytes)) = some (some (.int .i64 0), 1, 8) := by kernel_rfl

/-- What an append of one number leaves. -/
theorem app_int {w wr w1 : World} {v v' : Value} {z : List Int} {x : Int} (hB : Below w.heap.size w wr) (hown : wr.ownsRow w.heap.size 3 1 v z.length (nums z))
    (hown' : w1.ownsRow w.heap.size 3 1 v' (z.length + 1) (nums z ++ [.int .i64 x])) (hgrow : (wr.alloc (.cells #[.int .i64 x] 3)).grownBy w1 v.ownBlock) :
    OwnI w1 w.heap.size v' (z ++ [x]) ∧ Below w.heap.size w w1 := by
  constructor
  · unfold OwnI
    rw [show (z ++ [x]).length = z.length + 1 by simp, show nums (z ++ [x]) = nums z ++ [.int .i64 x] by simp [nums]]
    exact hown'
  · exact (hB.alloc hB.size _).grown hgrow (by have := hB.size; simp; omega) (fun k e => (hown.lt k e).1)

set_option maxHeartbeats 1000000 in
theorem specTrmFree_some (b off cap : Nat) (t : List C) (w : World) (hm : t.length ≤ 1048576) (hA : At w b off t) :
    Calls Try.prog 57 #[.slice (some ⟨b, off, none⟩) t.length cap] w fun e w' => ∃ v, e = .returned v ∧ OwnI w' w.heap.size v (freeOf t) ∧ Below w.heap.size w w' := by
  obtain ⟨i0, hi, hz0, hz1, hz2⟩ := info_parts Try.infoInt
  go_enter Try.func57, Try.ntmps57
  go_wp2
  go_loopw [3, 4] (fun o i wr => ∃ (k : Nat), k ≤ t.length ∧ i = .int .i64 k ∧ OwnI wr w.heap.size o (freeOf (t.take k)) ∧ Below w.heap.size w wr) (fun _ i _ => t.length - (intOf i).toNat)
  case atStart =>
    refine ⟨0, Nat.zero_le _, rfl, ?_, cell_below _ _⟩
    exact World.ownsRow_made w #[] 0 (Nat.le_refl _) (by simp [maxLen]) rfl
  case round =>
    obtain ⟨k, hk, rfl, hown, hB⟩ := hrel
    by_cases hlt : k < t.length
    · obtain ⟨c0, c1, c2⟩ := (hA.below hB) k hlt
      have HS := hide (freeOf_step hlt)
      have hfl : (freeOf (t.take k)).length ≤ 1048576 := by have := freeOf_len (t.take k); simp at this; omega
      obtain ⟨c, hc⟩ : ∃ c, c = t[k] := ⟨_, rfl⟩
      rw [← hc] at c0 c1 c2 HS
      clear hc
      obtain ⟨z, hz⟩ : ∃ z, z = freeOf (t.take k) := ⟨_, rfl⟩
      rw [← hz] at hown HS hfl
      clear hz
      obtain ⟨ao, cp, rfl, hR⟩ := hown.shape
      by_cases hk1 : c.k = 1
      · have hb : (c.k == 1) = true := by simpa using hk1
        have HK := hide hk1
        clear hk1
        by_cases hin : c.n ∈ z
        · have hd : decide (c.n ∈ z) = true := by simpa using hin
          go_wp2_with (go_at_call 115; refine (l1Has_any ao cp z c.n _ (by unfold maxLen; omega) hR).mono ?_; rw [hd]; rintro e w1 ⟨rfl, rfl⟩)
          go_roundw
          case rel => exact ⟨k + 1, by omega, by go_num, by rw [unhide HS, addV_old hin]; exact hown, hB⟩
          case measure => simp [intOf]; omega
        · have hd : decide (c.n ∈ z) = false := by simpa using hin
          go_wp2_with (first | (go_at_call 115; refine (l1Has_any ao cp z c.n _ (by unfold maxLen; omega) hR).mono ?_; rw [hd]; rintro e w1 ⟨rfl, rfl⟩) | (at_builtin; refine wpList_append_own _ rfl _ _ 96 rfl w.heap.size 3 i0 (.int .i64 0) 1 8 Try.underlying96 hi hz0 hz1 hz2 rfl (by decide) _ _ _ rfl (World.ownsRow.alloc hown _) ⟨w1.heap.size, 0, none⟩ 1 1 [.int .i64 c.n] rfl rfl (cell_one_new _ _ _) ?c2 ?c3 ?c4 ?c5 ?_))
          case c2 => intro u hu; simp at hu; subst hu; rfl
          case c3 => unfold maxLen; omega
          case c4 => omega
          case c5 => have := hB.size; simp; omega
          · intro v' w2 hown' hgrow _
            have R := app_int hB hown hown' hgrow
            clear hown' hgrow hown c0 c1 c2 hR
            go_wp2
            go_roundw
            case rel => exact ⟨k + 1, by omega, by go_num, by rw [unhide HS, addV_new (unhide HK) hin]; exact R.1, R.2⟩
            case measure => simp [intOf]; omega
      · have hb : (c.k == 1) = false := by simpa using hk1
        go_wp2
        go_roundw
        case rel => exact ⟨k + 1, by omega, by go_num, by rw [unhide HS, addV_other hk1]; exact hown, hB⟩
        case measure => simp [intOf]; omega
    · go_wp2
      go_ret
      rw [List.take_of_length_le (by omega)] at hown
      exact ⟨_, rfl, hown, hB⟩

set_option maxHeartbeats 400000 in
theorem specTrmFree_none (ao : Option Addr) (cap : Nat) (w : World) :
    Calls Try.prog 57 #[.slice ao 0 cap] w fun e w' => ∃ v, e = .returned v ∧ OwnI w' w.heap.size v (freeOf []) ∧ Below w.heap.size w w' := by
  go_enter Try.func57, Try.ntmps57
  go_wp2
  refine wp_loop_rounds 1 ?_
  rw [rounds_succ]
  go_wp2
  go_ret
  exact ⟨_, rfl, World.ownsRow_made w #[] 0 (Nat.le_refl _) (by simp [maxLen]) rfl, cell_below _ _⟩

/-- The model's TrmFree, of whatever places. -/
theorem specTrmFree_any (ao : Option Addr) (cap : Nat) (t : List C) (w : World) (hm : t.length ≤ 1048576) (hA : Row w ao t) :
    Calls Try.prog 57 #[.slice ao t.length cap] w fun e w' => ∃ v, e = .returned v ∧ OwnI w' w.heap.size v (freeOf t) ∧ Below w.heap.size w w' := by
  rcases hA with rfl | ⟨b, off, rfl, hA⟩
  · exact specTrmFree_none ao cap w
  · exact specTrmFree_some b off cap t w hm hA
end Go.Proofs.Ytkedckmpjedjoaa

/- The walk of the program's numberVars (a list and a map) and of TrmFree. -/
namespace Go.Proofs.Ytkedckmpjedjoaa
open Go.RowKit Go.Maps
set_option linter.unusedVariables false
set_option linter.unusedSimpArgs false

/-- The map says of each of these numbers at which place it stands, and of no other. -/
def Tab (z : List Int) (D : DataW Unit) : Prop :=
  Maps.IsMap D ∧ (∀ x : Int, Maps.has D (.int .i64 x) = decide (x ∈ z)) ∧ ∀ i, (h : i < z.length) → ∀ d, D.atKey (.int .i64 z[i]) d = .lit (.int .i64 (i : Int))

theorem tab_nil : Tab [] (.map [] : DataW Unit) := ⟨Maps.isMap_empty, fun x => by simp [Maps.has], fun i h => absurd h (Nat.not_lt_zero _)⟩

theorem tab_put {z : List Int} {D : DataW Unit} {x : Int} (h : Tab z D) (hx : x ∉ z) : Tab (z ++ [x]) (D.put (.int .i64 x) (.lit (.int .i64 (z.length : Int)))) := by
  refine ⟨h.1.put _ _, fun y => ?_, fun i hi d => ?_⟩
  · by_cases e : y = x
    · subst e
      rw [Maps.has_put_same h.1 (show WideAt.IsKeyLit (Lit.int .i64 y) from trivial)]; simp
    · rw [Maps.has_put_other (by intro h'; apply e; simpa using h'), h.2.1 y]
      simp [e]
  · by_cases hl : i < z.length
    · have hg : (z ++ [x])[i] = z[i] := List.getElem_append_left hl
      have hne : z[i] ≠ x := fun e => hx (by rw [← e]; exact List.getElem_mem hl)
      rw [hg, Maps.atKey_put_other (by intro h'; apply hne; simpa using h'), h.2.2 i hl]
    · have hi' : i = z.length := by simp at hi; omega
      subst hi'
      have hg : (z ++ [x])[z.length]'hi = x := by simp
      rw [hg, Maps.atKey_put_same h.1 (show WideAt.IsKeyLit (Lit.int .i64 x) from trivial)]

theorem zeroInt (w : World) : (zeroValue 3).run Try.prog w = .ok (.int .i64 0) w := by kernel_rfl

theorem addV_nodup {acc : List Int} {c : C} (h : acc.Nodup) : (addV acc c).Nodup := by
  unfold addV
  split
  · split
    · exact h
    · rename_i hn
      rw [List.nodup_append]
      refine ⟨h, by simp, fun a ha b hb => ?_⟩
      simp at hb
      subst hb
      intro e
      subst e
      exact hn ha
  · exact h
theorem fold_nodup : ∀ (t : List C) (acc : List Int), acc.Nodup → (t.foldl addV acc).Nodup
  | [], acc, h => h
  | c :: t, acc, h => fold_nodup t _ (addV_nodup h)
theorem freeOf_nodup (t : List C) : (freeOf t).Nodup := fold_nodup t [] List.nodup_nil

set_option maxHeartbeats 2000000 in
theorem numberVars_some (b off cap : Nat) (t : List C) (w : World) (hm : t.length ≤ 1048576) (hA : At w b off t) (hw : WfC t) :
    Calls Try.prog 138 #[.slice (some ⟨b, off, none⟩) t.length cap] w fun e w' => ∃ v, e = .returned (.tuple #[v, .map (some w.heap.size)]) ∧ OwnI w' (w.heap.size + 1) v (freeOf t) ∧
      (∃ D n, n ≤ t.length ∧ w'.ownsMap Try.prog 3 (plainElem Try.prog 3) w.heap.size n D ∧ Tab (freeOf t) D) ∧ Below w.heap.size w w' := by
  obtain ⟨i0, hi, hz0, hz1, hz2⟩ := info_parts Try.infoInt
  have hmm := @run_makeMap Try.prog
  go_enter Try.func138, Try.ntmps138
  go_wp2
  go_loopw [4, 13] (fun o i wr => ∃ (k n : Nat) (D : DataW Unit), k ≤ t.length ∧ n ≤ k ∧ i = .int .i64 k ∧ OwnI wr (w.heap.size + 1) o (freeOf (t.take k)) ∧ wr.ownsMap Try.prog 3 (plainElem Try.prog 3) w.heap.size n D ∧ Tab (freeOf (t.take k)) D ∧ Below w.heap.size w wr ∧ w.heap.size + 1 ≤ wr.heap.size) (fun _ i _ => t.length - (intOf i).toNat)
  case atStart =>
    exact ⟨0, 0, _, Nat.zero_le _, Nat.le_refl _, rfl, World.ownsRow_nil _ _ _ _, World.ownsMap_made _ _ _ _, tab_nil, cell_below _ _, by simp⟩
  case round =>
    obtain ⟨k, n, D, hk, hn, rfl, hown, hmap, hT, hB, hsz⟩ := hrel
    by_cases hlt : k < t.length
    · obtain ⟨c0, c1, c2⟩ := (hA.below hB) k hlt
      have HS := hide (freeOf_step hlt)
      have hwf := (hw _ (List.getElem_mem hlt)).2
      have hfl : (freeOf (t.take k)).length ≤ 1048576 := by have := freeOf_len (t.take k); simp at this; omega
      have hnd := freeOf_nodup (t.take k)
      obtain ⟨c, hc⟩ : ∃ c, c = t[k] := ⟨_, rfl⟩
      rw [← hc] at c0 c1 c2 HS hwf
      clear hc
      obtain ⟨z, hz⟩ : ∃ z, z = freeOf (t.take k) := ⟨_, rfl⟩
      rw [← hz] at hown HS hfl hT hnd
      clear hz
      have HT := hide hT
      have HND := hide hnd
      clear hnd hT
      obtain ⟨ao, cp, rfl, hR⟩ := hown.shape
      by_cases hk1 : c.k = 1
      · have hb : (c.k != 1) = false := by simpa using hk1
        have HK := hide hk1
        clear hk1
        have hhas := (unhide HT).2.1 c.n
        by_cases hin : c.n ∈ z
        · have hd : Maps.has D (.int .i64 c.n) = true := by rw [hhas]; simpa using hin
          clear hhas
          go_wp2_with (at_lookup; refine wpList_lookup_own_ok_int _ rfl _ _ 199 rfl 3 3 .i64 (int_keyed Try.underlying3) Try.underlying199 Try.underlying3 (zeroInt _) w.heap.size n D rfl (World.ownsMap.alloc hmap _) _ _ rfl (keyOf_int_mk Try.underlying3 hwf) ?_; intro cc hat hwc)
          go_roundw
          case rel => exact ⟨k + 1, n, D, by omega, by omega, by go_num, by rw [unhide HS, addV_old hin]; exact World.ownsRow.alloc hown _, World.ownsMap.alloc hmap _, by rw [unhide HS, addV_old hin]; exact unhide HT, hB.alloc hB.size _, by simp; omega⟩
          case measure => simp [intOf]; omega
        · have hd : Maps.has D (.int .i64 c.n) = false := by rw [hhas]; simpa using hin
          clear hhas
          have hwl : (Lit.int .i64 (z.length : Int)).wf = true := WalkArith.wf_i64 (by omega)
          have hnl : n < maxLen := by unfold maxLen; omega
          go_wp2_with (first | (at_lookup; refine wpList_lookup_own_ok_int _ rfl _ _ 199 rfl 3 3 .i64 (int_keyed Try.underlying3) Try.underlying199 Try.underlying3 (zeroInt _) w.heap.size n D rfl (World.ownsMap.alloc hmap _) _ _ rfl (keyOf_int_mk Try.underlying3 hwf) ?_; intro cc hat hwc) | (at_mapUpdate; refine wpList_mapUpdate_own _ rfl _ _ _ 199 rfl 3 3 (int_keyed Try.underlying3) Try.underlying199 _ w.heap.size n D rfl (World.ownsMap.alloc hmap _) hnl _ _ _ rfl rfl (keyOf_int_mk Try.underlying3 hwf) _ [] (plainElem_int Try.underlying3 hwl) ?_; intro w1 hmap1 hgrow1; have q1 := hgrow1.cell (a := ⟨wr.heap.size, 1, none⟩) (v := .int .i64 c.n) (by simp [go_sem]) (by simp; omega); have ho1 := own_apart (World.ownsRow.alloc hown (.cells #[.int .i64 c.k, .int .i64 c.n, .string c.s] 98)) hgrow1 (fun j e => .inl (by cases e; omega))) | (at_builtin; refine wpList_append_own _ rfl _ _ 96 rfl (w.heap.size + 1) 3 i0 (.int .i64 0) 1 8 Try.underlying96 hi hz0 hz1 hz2 rfl (by decide) _ _ _ rfl (World.ownsRow.alloc ho1 _) ⟨w1.heap.size, 0, none⟩ 1 1 [.int .i64 c.n] rfl rfl (cell_one_new _ _ _) ?c2 ?c3 ?c4 ?c5 ?_))
          case c2 => intro u hu; simp at hu; subst hu; rfl
          case c3 => unfold maxLen; omega
          case c4 => omega
          case c5 => have := hgrow1.size; simp at this ⊢; omega
          · intro v' w2 hown' hgrow2 _
            have hB1 : Below w.heap.size w w1 := (hB.alloc hB.size _).grown hgrow1 (by have := hB.size; simp; omega) (fun j e => by cases e; exact Nat.le_refl _)
            have hB2 : Below w.heap.size w w2 := (hB1.alloc hB1.size _).grown hgrow2 (by have := hB1.size; simp; omega) (fun j e => by have := (ho1.lt j e).1; omega)
            have hmap2 := (World.ownsMap.alloc hmap1 (.cells #[.int .i64 c.n] 3)).kept hgrow2 (fun e => by have := (ho1.lt _ e.symm).1; omega)
            have hO2 : OwnI w2 (w.heap.size + 1) v' (z ++ [c.n]) := by
              unfold OwnI
              rw [show (z ++ [c.n]).length = z.length + 1 by simp, show nums (z ++ [c.n]) = nums z ++ [.int .i64 c.n] by simp [nums]]
              exact hown'
            have hsz2 : w.heap.size + 1 ≤ w2.heap.size := by have := hgrow2.size; have := hgrow1.size; simp at *; omega
            clear hown' hgrow2 hgrow1 hown c0 c1 c2 hR hmap1 ho1 q1 hmap
            go_wp2
            go_roundw
            case rel => exact ⟨k + 1, n + 1, _, by omega, by omega, by go_num, by rw [unhide HS, addV_new (unhide HK) hin]; exact hO2, hmap2, by rw [unhide HS, addV_new (unhide HK) hin]; exact tab_put (unhide HT) hin, hB2, hsz2⟩
            case measure => simp [intOf]; omega
      · have hb : (c.k != 1) = true := by simpa using hk1
        go_wp2
        go_roundw
        case rel => exact ⟨k + 1, n, D, by omega, by omega, by go_num, by rw [unhide HS, addV_other hk1]; exact World.ownsRow.alloc hown _, World.ownsMap.alloc hmap _, by rw [unhide HS, addV_other hk1]; exact unhide HT, hB.alloc hB.size _, by simp; omega⟩
        case measure => simp [intOf]; omega
    · rw [List.take_of_length_le (by omega)] at hown hT
      go_wp2
      go_ret2
      exact ⟨_, rfl, hown, ⟨D, n, by omega, hmap, hT⟩, hB⟩
end Go.Proofs.Ytkedckmpjedjoaa
