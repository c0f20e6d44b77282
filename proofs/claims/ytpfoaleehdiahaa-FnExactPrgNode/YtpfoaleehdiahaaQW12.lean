/- The walk of the program's numberVars (a list and a map) and of TrmFree. -/
import Derived.Test.YtpfoaleehdiahaaQW9W11
import Derived.Test.YtpfoaleehdiahaaQOpen
import Derived.Maps.Own
import Derived.Maps.OwnOps
import Derived.Maps.OwnSet
namespace Go.Proofs.Ytpfoaleehdiahaa
open Go.RowKit Go.Maps
set_option linter.unusedVariables false
set_option linter.unusedSimpArgs false

/-- The map says of each of these numbers at which place it stands, and of no other. -/
def Tab (z : List Int) (D : DataW Unit) : Prop :=
  Maps.IsMap D ∧ (∀ x : Int, Maps.has D (.int .i64 x) = decide (x ∈ z)) ∧ ∀ i, (h : i < z.length) → ∀ d, D.atKey (.int .i64 z[i]) d = .lit (.int .i64 (i : Int))

theorem tab_nil : Tab [] (.map [] : DataW Unit) := ⟨Maps.isMap_empty, fun x => by simp [Maps.has], fun i h => absurd h (Nat.not_lt_zero _)⟩

theorem tab_put {z : List Int} {D : DataW Unit} {x : Int} (h : Tab z D) (hx : x ∉ z) : Tab (z ++ [x]) (D.put (.int .i64 x) (.lit (.int .i64 (z.length : Int)))) := by
  refine ⟨h.1.put _ _, fun y => ?_, fun i hi d => ?_⟩
  · by_cases e : y = x
    · subst e
      rw [Maps.has_put_same h.1 (show WideAt.IsKeyLit (Lit.int .i64 y) from trivial)]; simp
    · rw [Maps.has_put_other (by intro h'; apply e; simpa using h'), h.2.1 y]
      simp [e]
  · by_cases hl : i < z.length
    · have hg : (z ++ [x])[i] = z[i] := List.getElem_append_left hl
      have hne : z[i] ≠ x := fun e => hx (by rw [← e]; exact List.getElem_mem hl)
      rw [hg, Maps.atKey_put_other (by intro h'; apply hne; simpa using h'), h.2.2 i hl]
    · have hi' : i = z.length := by simp at hi; omega
      subst hi'
      have hg : (z ++ [x])[z.length]'hi = x := by simp
      rw [hg, Maps.atKey_put_same h.1 (show WideAt.IsKeyLit (Lit.int .i64 x) from trivial)]

theorem zeroInt (w : World) : (zeroValue 3).run Try.prog w = .ok (.int .i64 0) w := by kernel_rfl

theorem addV_nodup {acc : List Int} {c : C} (h : acc.Nodup) : (addV acc c).Nodup := by
  unfold addV
  split
  · split
    · exact h
    · rename_i hn
      rw [List.nodup_append]
      refine ⟨h, by simp, fun a ha b hb => ?_⟩
      simp at hb
      subst hb
      intro e
      subst e
      exact hn ha
  · exact h
theorem fold_nodup : ∀ (t : List C) (acc : List Int), acc.Nodup → (t.foldl addV acc).Nodup
  | [], acc, h => h
  | c :: t, acc, h => fold_nodup t _ (addV_nodup h)
theorem freeOf_nodup (t : List C) : (freeOf t).Nodup := fold_nodup t [] List.nodup_nil

set_option maxHeartbeats 2000000 in
theorem numberVars_some (b off cap : Nat) (t : List C) (w : World) (hm : t.length ≤ 1048576) (hA : At w b off t) (hw : WfC t) :
    Calls Try.prog 131 #[.slice (some ⟨b, off, none⟩) t.length cap] w fun e w' => ∃ v, e = .returned (.tuple #[v, .map (some w.heap.size)]) ∧ OwnI w' (w.heap.size + 1) v (freeOf t) ∧
      (∃ D n, n ≤ t.length ∧ w'.ownsMap Try.prog 3 (plainElem Try.prog 3) w.heap.size n D ∧ Tab (freeOf t) D) ∧ Below w.heap.size w w' := by
  obtain ⟨i0, hi, hz0, hz1, hz2⟩ := info_parts Try.infoInt
  have hmm := @run_makeMap Try.prog
  go_enter Try.func131, Try.ntmps131
  go_wp2
  go_loopw [4, 13] (fun o i wr => ∃ (k n : Nat) (D : DataW Unit), k ≤ t.length ∧ n ≤ k ∧ i = .int .i64 k ∧ OwnI wr (w.heap.size + 1) o (freeOf (t.take k)) ∧ wr.ownsMap Try.prog 3 (plainElem Try.prog 3) w.heap.size n D ∧ Tab (freeOf (t.take k)) D ∧ Below w.heap.size w wr ∧ w.heap.size + 1 ≤ wr.heap.size) (fun _ i _ => t.length - (intOf i).toNat)
  case atStart =>
    exact ⟨0, 0, _, Nat.zero_le _, Nat.le_refl _, rfl, World.ownsRow_nil _ _ _ _, World.ownsMap_made _ _ _ _, tab_nil, cell_below _ _, by simp⟩
  case round =>
    obtain ⟨k, n, D, hk, hn, rfl, hown, hmap, hT, hB, hsz⟩ := hrel
    by_cases hlt : k < t.length
    · obtain ⟨c0, c1, c2⟩ := (hA.below hB) k hlt
      have HS := hide (freeOf_step hlt)
      have hwf := (hw _ (List.getElem_mem hlt)).2
      have hfl : (freeOf (t.take k)).length ≤ 1048576 := by have := freeOf_len (t.take k); simp at this; omega
      have hnd := freeOf_nodup (t.take k)
      obtain ⟨c, hc⟩ : ∃ c, c = t[k] := ⟨_, rfl⟩
      rw [← hc] at c0 c1 c2 HS hwf
      clear hc
      obtain ⟨z, hz⟩ : ∃ z, z = freeOf (t.take k) := ⟨_, rfl⟩
      rw [← hz] at hown HS hfl hT hnd
      clear hz
      have HT := hide hT
      have HND := hide hnd
      clear hnd hT
      obtain ⟨ao, cp, rfl, hR⟩ := hown.shape
      by_cases hk1 : c.k = 1
      · have hb : (c.k != 1) = false := by simpa using hk1
        have HK := hide hk1
        clear hk1
        have hhas := (unhide HT).2.1 c.n
        by_cases hin : c.n ∈ z
        · have hd : Maps.has D (.int .i64 c.n) = true := by rw [hhas]; simpa using hin
          clear hhas
          go_wp2_with (at_lookup; refine wpList_lookup_own_ok_int _ rfl _ _ 191 rfl 3 3 .i64 (int_keyed Try.underlying3) Try.underlying191 Try.underlying3 (zeroInt _) w.heap.size n D rfl (World.ownsMap.alloc hmap _) _ _ rfl (keyOf_int_mk Try.underlying3 hwf) ?_; intro cc hat hwc)
          go_roundw
          case rel => exact ⟨k + 1, n, D, by omega, by omega, by go_num, by rw [unhide HS, addV_old hin]; exact World.ownsRow.alloc hown _, World.ownsMap.alloc hmap _, by rw [unhide HS, addV_old hin]; exact unhide HT, hB.alloc hB.size _, by simp; omega⟩
          case measure => simp [intOf]; omega
        · have hd : Maps.has D (.int .i64 c.n) = false := by rw [hhas]; simpa using hin
          clear hhas
          have hwl : (Lit.int .i64 (z.length : Int)).wf = true := WalkArith.wf_i64 (by omega)
          have hnl : n < maxLen := by unfold maxLen; omega
          go_wp2_with (first | (at_lookup; refine wpList_lookup_own_ok_int _ rfl _ _ 191 rfl 3 3 .i64 (int_keyed Try.underlying3) Try.underlying191 Try.underlying3 (zeroInt _) w.heap.size n D rfl (World.ownsMap.alloc hmap _) _ _ rfl (keyOf_int_mk Try.underlying3 hwf) ?_; intro cc hat hwc) | (at_mapUpdate; refine wpList_mapUpdate_own _ rfl _ _ _ 191 rfl 3 3 (int_keyed Try.underlying3) Try.underlying191 _ w.heap.size n D rfl (World.ownsMap.alloc hmap _) hnl _ _ _ rfl rfl (keyOf_int_mk Try.underlying3 hwf) _ [] (plainElem_int Try.underlying3 hwl) ?_; intro w1 hmap1 hgrow1; have q1 := hgrow1.cell (a := ⟨wr.heap.size, 1, none⟩) (v := .int .i64 c.n) (by simp [go_sem]) (by simp; omega); have ho1 := own_apart (World.ownsRow.alloc hown (.cells #[.int .i64 c.k, .int .i64 c.n, .string c.s] 79)) hgrow1 (fun j e => .inl (by cases e; omega))) | (at_builtin; refine wpList_append_own _ rfl _ _ 103 rfl (w.heap.size + 1) 3 i0 (.int .i64 0) 1 8 Try.underlying103 hi hz0 hz1 hz2 rfl (by decide) _ _ _ rfl (World.ownsRow.alloc ho1 _) ⟨w1.heap.size, 0, none⟩ 1 1 [.int .i64 c.n] rfl rfl (cell_one_new _ _ _) ?c2 ?c3 ?c4 ?c5 ?_))
          case c2 => intro u hu; simp at hu; subst hu; rfl
          case c3 => unfold maxLen; omega
          case c4 => omega
          case c5 => have := hgrow1.size; simp at this ⊢; omega
          · intro v' w2 hown' hgrow2 _
            have hB1 : Below w.heap.size w w1 := (hB.alloc hB.size _).grown hgrow1 (by have := hB.size; simp; omega) (fun j e => by cases e; exact Nat.le_refl _)
            have hB2 : Below w.heap.size w w2 := (hB1.alloc hB1.size _).grown hgrow2 (by have := hB1.size; simp; omega) (fun j e => by have := (ho1.lt j e).1; omega)
            have hmap2 := (World.ownsMap.alloc hmap1 (.cells #[.int .i64 c.n] 3)).kept hgrow2 (fun e => by have := (ho1.lt _ e.symm).1; omega)
            have hO2 : OwnI w2 (w.heap.size + 1) v' (z ++ [c.n]) := by
              unfold OwnI
              rw [show (z ++ [c.n]).length = z.length + 1 by simp, show nums (z ++ [c.n]) = nums z ++ [.int .i64 c.n] by simp [nums]]
              exact hown'
            have hsz2 : w.heap.size + 1 ≤ w2.heap.size := by have := hgrow2.size; have := hgrow1.size; simp at *; omega
            clear hown' hgrow2 hgrow1 hown c0 c1 c2 hR hmap1 ho1 q1 hmap
            go_wp2
            go_roundw
            case rel => exact ⟨k + 1, n + 1, _, by omega, by omega, by go_num, by rw [unhide HS, addV_new (unhide HK) hin]; exact hO2, hmap2, by rw [unhide HS, addV_new (unhide HK) hin]; exact tab_put (unhide HT) hin, hB2, hsz2⟩
            case measure => simp [intOf]; omega
      · have hb : (c.k != 1) = true := by simpa using hk1
        go_wp2
        go_roundw
        case rel => exact ⟨k + 1, n, D, by omega, by omega, by go_num, by rw [unhide HS, addV_other hk1]; exact World.ownsRow.alloc hown _, World.ownsMap.alloc hmap _, by rw [unhide HS, addV_other hk1]; exact unhide HT, hB.alloc hB.size _, by simp; omega⟩
        case measure => simp [intOf]; omega
    · rw [List.take_of_length_le (by omega)] at hown hT
      go_wp2
      go_ret2
      exact ⟨_, rfl, hown, ⟨D, n, by omega, hmap, hT⟩, hB⟩
end Go.Proofs.Ytpfoaleehdiahaa
