/- The walk of the program's TrmCanon. -/
import Derived.Test.YtddhjafpacgdaaaW15
namespace Go.Proofs.Ytddhjafpacgdaaa
open Go.RowKit Go.Maps
set_option linter.unusedVariables false
set_option linter.unusedSimpArgs false

theorem exists_first : ∀ (z : List Int) (x : Int), x ∈ z → ∃ k, ∃ h : k < z.length, z[k] = x ∧ x ∉ z.take k
  | a :: r, x, hm => by
      by_cases e : a = x
      · exact ⟨0, by simp, e, by simp⟩
      · have hr : x ∈ r := by
          rcases List.mem_cons.1 hm with h | h
          · exact absurd h.symm e
          · exact h
        obtain ⟨k, hk, h1, h2⟩ := exists_first r x hr
        refine ⟨k + 1, by simp; omega, h1, ?_⟩
        rw [List.take_succ_cons, List.mem_cons]
        rintro (h | h)
        · exact e h.symm
        · exact h2 h

theorem tab_place {z : List Int} {D : DataW Unit} {x : Int} (h : Tab z D) (hx : x ∈ z) (d : DataW Unit) : D.atKey (.int .i64 x) d = .lit (.int .i64 (placeV z x)) := by
  obtain ⟨k, hk, rfl, hn⟩ := exists_first z x hx
  rw [h.2.2 k hk d, placeV_first z z[k] k hk rfl hn]

theorem tab_get {z : List Int} {D : DataW Unit} {x cc : Int} (h : Tab z D) (hx : x ∈ z) (hat : D.atKey (.int .i64 x) (.lit (.int .i64 0)) = .lit (.int .i64 cc)) : placeV z x = cc := by
  rw [tab_place h hx] at hat
  simpa using hat

set_option maxHeartbeats 2000000 in
theorem TrmCanon_some (b off cap : Nat) (t : List C) (w : World) (hm : t.length ≤ 1048576) (hA : At w b off t) (hw : WfC t) :
    Calls Try.prog 25 #[.slice (some ⟨b, off, none⟩) t.length cap] w fun e w' => ∃ v, e = .returned v ∧ OwnC w' w.heap.size v (canonOf t) ∧ Below w.heap.size w w' := by
  obtain ⟨i0, hi, hz0, hz1, hz2⟩ := info_parts Try.infoCell
  have hfl := freeOf_len t
  have HM := hide (mem_freeOf t)
  go_enter Try.func25, Try.ntmps25
  go_wp2_with fail
  refine (numberVars_any _ _ t _ hm (.inr ⟨b, off, rfl, hA⟩) hw).mono ?_
  rintro e w0 ⟨v0, rfl, hv0, ⟨D, n, hn, hmap, hT⟩, hb0⟩
  obtain ⟨z, hz⟩ : ∃ z, z = freeOf t := ⟨_, rfl⟩
  rw [← hz] at hfl hT HM
  have HZ := hide hz
  have HT := hide hT
  clear hz hT hv0
  have hszm : w.heap.size < w0.heap.size := hmap.lt
  go_wp2
  go_loopw [5, 15] (fun o i wr => ∃ (k : Nat), k ≤ t.length ∧ i = .int .i64 k ∧ OwnC wr w0.heap.size o ((t.take k).map (canonC z)) ∧ Below w0.heap.size w0 wr) (fun _ i _ => t.length - (intOf i).toNat)
  case atStart => exact ⟨0, Nat.zero_le _, rfl, World.ownsRow_nil _ _ _ _, Below.refl _ _⟩
  case round =>
    obtain ⟨k, hk, rfl, hown, hB0⟩ := hrel
    have hB := bstep hb0 hB0
    by_cases hlt : k < t.length
    · obtain ⟨c0, c1, c2⟩ := (hA.below hB) k hlt
      have HS := hide (map_step z hlt)
      have hwf := (hw _ (List.getElem_mem hlt)).2
      have hin := hide (show t[k].k = 1 → t[k].n ∈ z from fun h => ((unhide HM) _).2 ⟨_, List.getElem_mem hlt, h, rfl⟩)
      have hmp := hmap.kept (grown_below (row := none) hB0) (by simp)
      obtain ⟨c, hc⟩ : ∃ c, c = t[k] := ⟨_, rfl⟩
      rw [← hc] at c0 c1 c2 HS hwf hin
      clear hc
      have hyl : ((t.take k).map (canonC z)).length ≤ 1048576 := by simp; omega
      obtain ⟨y, hy⟩ : ∃ y, y = (t.take k).map (canonC z) := ⟨_, rfl⟩
      rw [← hy] at hown HS hyl
      clear hy
      obtain ⟨ao, cp, rfl, _⟩ := hown.shape
      by_cases hk1 : c.k = 1
      · have hb : (c.k == 1) = true := by simpa using hk1
        have hmem := hide (unhide hin hk1)
        have HK := hide (canonC_var (z := z) hk1)
        clear hk1 hin
        go_wp2_with (first | (at_lookup; refine wpList_lookup_own_int _ rfl _ _ 72 rfl 3 3 .i64 (int_keyed Try.underlying3) Try.underlying72 Try.underlying3 (zeroInt _) w.heap.size n D rfl (World.ownsMap.alloc hmp _) _ _ rfl (keyOf_int_mk Try.underlying3 hwf) ?_; intro cc hat hwc; have HCC := hide (tab_get (unhide HT) (unhide hmem) hat); clear hat) | (at_builtin; refine wpList_append_own _ rfl _ _ 23 rfl w0.heap.size 36 i0 _ 3 32 Try.underlying23 hi hz0 hz1 hz2 rfl (by decide) _ _ _ rfl (World.ownsRow.alloc (World.ownsRow.alloc hown _) _) ⟨wr.heap.size + 1, 0, none⟩ 1 1 [.int .i64 c.k, .int .i64 cc, .string c.s] rfl rfl ?c1 ?c2 ?c3 ?c4 ?c5 ?_))
        case c1 =>
          intro j u hj
          have := cell_three_new (wr.alloc (.cells #[.int .i64 c.k, .int .i64 cc, .string c.s] 36)) _ _ _ 36 j u hj
          rw [World.size_alloc] at this
          exact this
        case c2 => intro u hu; simp at hu; rcases hu with rfl | rfl | rfl <;> rfl
        case c3 => unfold maxLen; omega
        case c4 => omega
        case c5 => have := hB0.size; simp; omega
        · intro v' w2 hown' hgrow _
          have R := app_cell (c := ⟨c.k, cc, c.s⟩) (hB0.alloc hB0.size _) (Nat.le_refl _) (World.ownsRow.alloc hown _) hown' hgrow
          clear hown' hgrow hown c0 c1 c2 hmp
          go_wp2
          go_roundw
          case rel => exact ⟨k + 1, by omega, by go_num, by rw [unhide HS, unhide HK, unhide HCC]; exact R.1, R.2⟩
          case measure => simp [intOf]; omega
      · have hb : (c.k == 1) = false := by simpa using hk1
        have HK := hide (canonC_other (z := z) hk1)
        clear hk1
        go_wp2_with (at_builtin; refine wpList_append_own _ rfl _ _ 23 rfl w0.heap.size 36 i0 _ 3 32 Try.underlying23 hi hz0 hz1 hz2 rfl (by decide) _ _ _ rfl (World.ownsRow.alloc (World.ownsRow.alloc hown _) _) ⟨wr.heap.size + 1, 0, none⟩ 1 1 [.int .i64 c.k, .int .i64 c.n, .string c.s] rfl rfl ?d1 ?d2 ?d3 ?d4 ?d5 ?_)
        case d1 =>
          intro j u hj
          have := cell_three_new (wr.alloc (.cells #[.int .i64 c.k, .int .i64 c.n, .string c.s] 36)) _ _ _ 36 j u hj
          rw [World.size_alloc] at this
          exact this
        case d2 => intro u hu; simp at hu; rcases hu with rfl | rfl | rfl <;> rfl
        case d3 => unfold maxLen; omega
        case d4 => omega
        case d5 => have := hB0.size; simp; omega
        · intro v' w2 hown' hgrow _
          have R := app_cell (c := c) (hB0.alloc hB0.size _) (Nat.le_refl _) (World.ownsRow.alloc hown _) hown' hgrow
          clear hown' hgrow hown c0 c1 c2 hmp
          go_wp2
          go_roundw
          case rel => exact ⟨k + 1, by omega, by go_num, by rw [unhide HS, unhide HK]; exact R.1, R.2⟩
          case measure => simp [intOf]; omega
    · rw [List.take_of_length_le (by omega)] at hown
      have hO := canon_done hown (unhide HZ) hb0.size
      go_wp2
      go_ret
      exact ⟨_, rfl, hO, hB⟩

set_option maxHeartbeats 400000 in
theorem TrmCanon_none (ao : Option Addr) (cap : Nat) (w : World) :
    Calls Try.prog 25 #[.slice ao 0 cap] w fun e w' => ∃ v, e = .returned v ∧ OwnC w' w.heap.size v (canonOf []) ∧ Below w.heap.size w w' := by
  go_enter Try.func25, Try.ntmps25
  go_wp2_with fail
  refine (numberVars_none _ _ _).mono ?_
  rintro e w0 ⟨v0, rfl, hv0, _, hb0⟩
  go_wp2
  refine wp_loop_rounds 1 ?_
  rw [rounds_succ]
  go_wp2
  go_ret
  exact ⟨_, rfl, World.ownsRow_nil _ _ _ _, hb0⟩

/-- The program's TrmCanon, of whatever places. -/
theorem TrmCanon_any (ao : Option Addr) (cap : Nat) (t : List C) (w : World) (hm : t.length ≤ 1048576) (hA : Row w ao t) (hw : WfC t) :
    Calls Try.prog 25 #[.slice ao t.length cap] w fun e w' => ∃ v, e = .returned v ∧ OwnC w' w.heap.size v (canonOf t) ∧ Below w.heap.size w w' := by
  rcases hA with rfl | ⟨b, off, rfl, hA⟩
  · exact TrmCanon_none ao cap w
  · exact TrmCanon_some b off cap t w hm hA hw
end Go.Proofs.Ytddhjafpacgdaaa
