import Derived.Test.YtajkmebjmdolaaaDoorQW2W3W4
import Derived.Test.YtajkmebjmdolaaaDoorQT3Plain2T4
import Derived.Test.YtajkmebjmdolaaaDoorQW15
/- Goals: when one may stand in a clause; the walks of the model's l3Term, l3Call and GoalOk. -/
namespace Go.Proofs.YtajkmebjmdolaaaDoor
open Go.RowKit
set_option linter.unusedVariables false
set_option linter.unusedSimpArgs false

/-- A place has a variable that clauses have not. -/
def farC (c : C) : Bool := decide (c.k = 1) && decide (8 ≤ c.n)
/-- A term may stand in a clause. -/
def l3T (t : List C) : Bool := trm t && decide (t.length ≤ 12) && !(t.any farC)
/-- A term may be called. -/
def callT : List C → Bool
  | [] => false
  | c :: _ => decide (c.k = 3)
/-- A goal may stand in a clause. -/
def goalB (k : Int) (a b c : List C) : Bool :=
  if k = 1 then l3T a && callT a && decide (b.length + c.length = 0)
  else if k = 3 then decide (a.length + b.length + c.length = 0)
  else if k = 2 ∨ k = 4 then l3T a && l3T b && decide (c.length = 0)
  else if k = 5 then l3T a && l3T b && l3T c
  else false

theorem l3T_iff (t : List C) : l3T t = true ↔ trm t = true ∧ t.length ≤ 12 ∧ ∀ c ∈ t, farC c = false := by
  unfold l3T
  simp only [Bool.and_eq_true, decide_eq_true_eq, Bool.not_eq_true', List.any_eq_false, Bool.not_eq_true, and_assoc]

set_option maxRecDepth 100000 in
set_option maxHeartbeats 1000000 in
theorem l3Term_some (b off cap : Nat) (t : List C) (w : World) (hm : t.length ≤ maxLen) (hA : At w b off t) (hF : Fit t) :
    Calls Tryd.prog 29 #[.slice (some ⟨b, off, none⟩) t.length cap] w fun e w' => e = .returned (.bool (l3T t)) ∧ Below w.heap.size w w' := by
  have H := hide (specTrmOk_any (some ⟨b, off, none⟩) cap t w hm (.inr ⟨b, off, rfl, hA⟩) hF)
  have HL := hide (l3T_iff t)
  unfold maxLen at hm
  cases hy : trm t with
  | false =>
    rw [hy] at H
    have HN : Hid (l3T t = false) := by
      cases e : l3T t with
      | false => rfl
      | true => have := (unhide HL).1 e; rw [hy] at this; cases this.1
    clear hy
    go_enter Tryd.func29, Tryd.ntmps29
    go_wp2_with fail
    refine (unhide H).mono ?_
    rintro e w1 ⟨rfl, hb1⟩
    go_wp2
    go_ret
    exact ⟨ret_bool (unhide HN).symm, hb1⟩
  | true =>
    rw [hy] at H
    have hl := trm_len hy
    have HY := hide hy
    clear hy
    go_enter Tryd.func29, Tryd.ntmps29
    go_wp2_with fail
    refine (unhide H).mono ?_
    clear H
    rintro e w1 ⟨rfl, hb1⟩
    by_cases h12 : t.length ≤ 12
    · go_wp2
      go_loopw [3] (fun i wr => ∃ (k : Nat), k ≤ t.length ∧ i = .int .i64 k ∧ (∀ j, (h : j < t.length) → j < k → farC t[j] = false) ∧ Below w.heap.size w wr) (fun i _ => t.length - (intOf i).toNat)
      case atStart => exact ⟨0, Nat.zero_le _, rfl, fun j _ h => absurd h (Nat.not_lt_zero _), hb1⟩
      case round =>
        obtain ⟨k, hk, rfl, hg, hB⟩ := hrel
        have HG := hide hg
        clear hg
        by_cases hlt : k < t.length
        · obtain ⟨c0, c1, c2⟩ := (hA.below hB) k hlt
          have HN : Hid (farC t[k] = true → l3T t = false) := fun hf => by
            cases e : l3T t with
            | false => rfl
            | true => have := ((unhide HL).1 e).2.2 t[k] (List.getElem_mem hlt); rw [hf] at this; cases this
          have HST : Hid (farC t[k] = false → ∀ j, (h : j < t.length) → j < k + 1 → farC t[j] = false) := fun hf j hj hjk => by
            by_cases e : j = k
            · subst e; exact hf
            · exact unhide HG j hj (by omega)
          generalize t[k] = c at c0 c1 c2 HN HST
          by_cases h1 : c.k = 1
          · have h1b : (c.k == 1) = true := by simpa using h1
            by_cases h8 : 8 ≤ c.n
            · have HE := hide (unhide HN (by simp [farC, h1, h8]))
              clear h1
              go_wp2
              go_ret
              exact ⟨ret_bool (unhide HE).symm, hB⟩
            · have HE := hide (unhide HST (by simp [farC, h8]))
              clear h1
              go_wp2
              go_roundw
              case rel => exact ⟨k + 1, by omega, by go_num, unhide HE, hB⟩
              case measure => simp [intOf]; omega
          · have h1b : (c.k == 1) = false := by simpa using h1
            have HE := hide (unhide HST (by simp [farC, h1]))
            clear h1
            go_wp2
            go_roundw
            case rel => exact ⟨k + 1, by omega, by go_num, unhide HE, hB⟩
            case measure => simp [intOf]; omega
        · have HE : Hid (l3T t = true) := (unhide HL).2 ⟨unhide HY, h12, fun c hc => by
            obtain ⟨j, hj, rfl⟩ := List.getElem_of_mem hc
            exact unhide HG j hj (by omega)⟩
          go_wp2
          go_ret
          exact ⟨ret_bool (unhide HE).symm, hB⟩
    · have HN : Hid (l3T t = false) := by
        cases e : l3T t with
        | false => rfl
        | true => exact absurd ((unhide HL).1 e).2.1 h12
      go_wp2
      go_ret
      exact ⟨ret_bool (unhide HN).symm, hb1⟩

theorem l3Term_any (ao : Option Addr) (cap : Nat) (t : List C) (w : World) (hm : t.length ≤ maxLen) (hA : Row w ao t) (hF : Fit t) :
    Calls Tryd.prog 29 #[.slice ao t.length cap] w fun e w' => e = .returned (.bool (l3T t)) ∧ Below w.heap.size w w' := by
  rcases hA with rfl | ⟨b, off, rfl, hA⟩
  · have H := hide (specTrmOk_any ao cap [] w (by simp) (.inl rfl) (fun c hc => by simp at hc))
    rw [trm_nil] at H
    go_enter Tryd.func29, Tryd.ntmps29
    simp only [List.length_nil] at H ⊢
    go_wp2_with fail
    refine (unhide H).mono ?_
    rintro e w1 ⟨rfl, hb1⟩
    go_wp2
    go_ret
    exact ⟨ret_bool (by simp [l3T, trm_nil]), hb1⟩
  · exact l3Term_some b off cap t w hm hA hF

set_option maxHeartbeats 400000 in
theorem l3Call_any (ao : Option Addr) (cap : Nat) (t : List C) (w : World) (hm : t.length ≤ maxLen) (hA : Row w ao t) :
    Calls Tryd.prog 30 #[.slice ao t.length cap] w fun e w' => e = .returned (.bool (callT t)) ∧ w' = w := by
  unfold maxLen at hm
  rcases hA with rfl | ⟨b, off, rfl, hA⟩
  · go_enter Tryd.func30, Tryd.ntmps30
    try simp only [List.length_nil]
    go_wp2
    go_ret
    exact ⟨ret_bool rfl, rfl⟩
  · cases t with
    | nil =>
      go_enter Tryd.func30, Tryd.ntmps30
      try simp only [List.length_nil]
      go_wp2
      go_ret
      exact ⟨ret_bool rfl, rfl⟩
    | cons c r =>
      obtain ⟨c0, c1, c2⟩ := hA 0 (by simp)
      simp only [List.getElem_cons_zero, Nat.zero_mul, Nat.add_zero] at c0
      simp only [List.length_cons] at hm ⊢
      have hp : 0 < r.length + 1 := by omega
      by_cases h3 : c.k = 3
      · have h3b : (c.k == 3) = true := by simpa using h3
        have HE : Hid (callT (c :: r) = true) := by simp [Hid, callT, h3]
        clear h3 hA
        go_enter Tryd.func30, Tryd.ntmps30
        go_wp2
        go_ret
        exact ⟨ret_bool (unhide HE).symm, rfl⟩
      · have h3b : (c.k == 3) = false := by simpa using h3
        have HE : Hid (callT (c :: r) = false) := by simp [Hid, callT, h3]
        clear h3 hA
        go_enter Tryd.func30, Tryd.ntmps30
        go_wp2
        go_ret
        exact ⟨ret_bool (unhide HE).symm, rfl⟩
end Go.Proofs.YtajkmebjmdolaaaDoor

/- The walk of the program's TrmCanon. -/
namespace Go.Proofs.YtajkmebjmdolaaaDoor
open Go.RowKit Go.Maps
set_option linter.unusedVariables false
set_option linter.unusedSimpArgs false

theorem exists_first : ∀ (z : List Int) (x : Int), x ∈ z → ∃ k, ∃ h : k < z.length, z[k] = x ∧ x ∉ z.take k
  | a :: r, x, hm => by
      by_cases e : a = x
      · exact ⟨0, by simp, e, by simp⟩
      · have hr : x ∈ r := by
          rcases List.mem_cons.1 hm with h | h
          · exact absurd h.symm e
          · exact h
        obtain ⟨k, hk, h1, h2⟩ := exists_first r x hr
        refine ⟨k + 1, by simp; omega, h1, ?_⟩
        rw [List.take_succ_cons, List.mem_cons]
        rintro (h | h)
        · exact e h.symm
        · exact h2 h

theorem tab_place {z : List Int} {D : DataW Unit} {x : Int} (h : Tab z D) (hx : x ∈ z) (d : DataW Unit) : D.atKey (.int .i64 x) d = .lit (.int .i64 (placeV z x)) := by
  obtain ⟨k, hk, rfl, hn⟩ := exists_first z x hx
  rw [h.2.2 k hk d, placeV_first z z[k] k hk rfl hn]

theorem tab_get {z : List Int} {D : DataW Unit} {x cc : Int} (h : Tab z D) (hx : x ∈ z) (hat : D.atKey (.int .i64 x) (.lit (.int .i64 0)) = .lit (.int .i64 cc)) : placeV z x = cc := by
  rw [tab_place h hx] at hat
  simpa using hat

set_option maxHeartbeats 2000000 in
theorem TrmCanon_some (b off cap : Nat) (t : List C) (w : World) (hm : t.length ≤ 1048576) (hA : At w b off t) (hw : WfC t) :
    Calls Tryd.prog 61 #[.slice (some ⟨b, off, none⟩) t.length cap] w fun e w' => ∃ v, e = .returned v ∧ OwnC w' w.heap.size v (canonOf t) ∧ Below w.heap.size w w' := by
  obtain ⟨i0, hi, hz0, hz1, hz2⟩ := info_parts Tryd.infoCell
  have hfl := freeOf_len t
  have HM := hide (mem_freeOf t)
  go_enter Tryd.func61, Tryd.ntmps61
  go_wp2_with fail
  refine (numberVars_any _ _ t _ hm (.inr ⟨b, off, rfl, hA⟩) hw).mono ?_
  rintro e w0 ⟨v0, rfl, hv0, ⟨D, n, hn, hmap, hT⟩, hb0⟩
  obtain ⟨z, hz⟩ : ∃ z, z = freeOf t := ⟨_, rfl⟩
  rw [← hz] at hfl hT HM
  have HZ := hide hz
  have HT := hide hT
  clear hz hT hv0
  have hszm : w.heap.size < w0.heap.size := hmap.lt
  go_wp2
  go_loopw [5, 15] (fun o i wr => ∃ (k : Nat), k ≤ t.length ∧ i = .int .i64 k ∧ OwnC wr w0.heap.size o ((t.take k).map (canonC z)) ∧ Below w0.heap.size w0 wr) (fun _ i _ => t.length - (intOf i).toNat)
  case atStart => exact ⟨0, Nat.zero_le _, rfl, World.ownsRow_nil _ _ _ _, Below.refl _ _⟩
  case round =>
    obtain ⟨k, hk, rfl, hown, hB0⟩ := hrel
    have hB := bstep hb0 hB0
    by_cases hlt : k < t.length
    · obtain ⟨c0, c1, c2⟩ := (hA.below hB) k hlt
      have HS := hide (map_step z hlt)
      have hwf := (hw _ (List.getElem_mem hlt)).2
      have hin := hide (show t[k].k = 1 → t[k].n ∈ z from fun h => ((unhide HM) _).2 ⟨_, List.getElem_mem hlt, h, rfl⟩)
      have hmp := hmap.kept (grown_below (row := none) hB0) (by simp)
      obtain ⟨c, hc⟩ : ∃ c, c = t[k] := ⟨_, rfl⟩
      rw [← hc] at c0 c1 c2 HS hwf hin
      clear hc
      have hyl : ((t.take k).map (canonC z)).length ≤ 1048576 := by simp; omega
      obtain ⟨y, hy⟩ : ∃ y, y = (t.take k).map (canonC z) := ⟨_, rfl⟩
      rw [← hy] at hown HS hyl
      clear hy
      obtain ⟨ao, cp, rfl, _⟩ := hown.shape
      by_cases hk1 : c.k = 1
      · have hb : (c.k == 1) = true := by simpa using hk1
        have hmem := hide (unhide hin hk1)
        have HK := hide (canonC_var (z := z) hk1)
        clear hk1 hin
        go_wp2_with (first | (at_lookup; refine wpList_lookup_own_int _ rfl _ _ 126 rfl 3 3 .i64 (int_keyed Tryd.underlying3) Tryd.underlying126 Tryd.underlying3 (zeroInt _) w.heap.size n D rfl (World.ownsMap.alloc hmp _) _ _ rfl (keyOf_int_mk Tryd.underlying3 hwf) ?_; intro cc hat hwc; have HCC := hide (tab_get (unhide HT) (unhide hmem) hat); clear hat) | (at_builtin; refine wpList_append_own _ rfl _ _ 27 rfl w0.heap.size 57 i0 _ 3 32 Tryd.underlying27 hi hz0 hz1 hz2 rfl (by decide) _ _ _ rfl (World.ownsRow.alloc (World.ownsRow.alloc hown _) _) ⟨wr.heap.size + 1, 0, none⟩ 1 1 [.int .i64 c.k, .int .i64 cc, .string c.s] rfl rfl ?c1 ?c2 ?c3 ?c4 ?c5 ?_))
        case c1 =>
          intro j u hj
          have := cell_three_new (wr.alloc (.cells #[.int .i64 c.k, .int .i64 cc, .string c.s] 57)) _ _ _ 57 j u hj
          rw [World.size_alloc] at this
          exact this
        case c2 => intro u hu; simp at hu; rcases hu with rfl | rfl | rfl <;> rfl
        case c3 => unfold maxLen; omega
        case c4 => omega
        case c5 => have := hB0.size; simp; omega
        · intro v' w2 hown' hgrow _
          have R := app_cell (c := ⟨c.k, cc, c.s⟩) (hB0.alloc hB0.size _) (Nat.le_refl _) (World.ownsRow.alloc hown _) hown' hgrow
          clear hown' hgrow hown c0 c1 c2 hmp
          go_wp2
          go_roundw
          case rel => exact ⟨k + 1, by omega, by go_num, by rw [unhide HS, unhide HK, unhide HCC]; exact R.1, R.2⟩
          case measure => simp [intOf]; omega
      · have hb : (c.k == 1) = false := by simpa using hk1
        have HK := hide (canonC_other (z := z) hk1)
        clear hk1
        go_wp2_with (at_builtin; refine wpList_append_own _ rfl _ _ 27 rfl w0.heap.size 57 i0 _ 3 32 Tryd.underlying27 hi hz0 hz1 hz2 rfl (by decide) _ _ _ rfl (World.ownsRow.alloc (World.ownsRow.alloc hown _) _) ⟨wr.heap.size + 1, 0, none⟩ 1 1 [.int .i64 c.k, .int .i64 c.n, .string c.s] rfl rfl ?d1 ?d2 ?d3 ?d4 ?d5 ?_)
        case d1 =>
          intro j u hj
          have := cell_three_new (wr.alloc (.cells #[.int .i64 c.k, .int .i64 c.n, .string c.s] 57)) _ _ _ 57 j u hj
          rw [World.size_alloc] at this
          exact this
        case d2 => intro u hu; simp at hu; rcases hu with rfl | rfl | rfl <;> rfl
        case d3 => unfold maxLen; omega
        case d4 => omega
        case d5 => have := hB0.size; simp; omega
        · intro v' w2 hown' hgrow _
          have R := app_cell (c := c) (hB0.alloc hB0.size _) (Nat.le_refl _) (World.ownsRow.alloc hown _) hown' hgrow
          clear hown' hgrow hown c0 c1 c2 hmp
          go_wp2
          go_roundw
          case rel => exact ⟨k + 1, by omega, by go_num, by rw [unhide HS, unhide HK]; exact R.1, R.2⟩
          case measure => simp [intOf]; omega
    · rw [List.take_of_length_le (by omega)] at hown
      have hO := canon_done hown (unhide HZ) hb0.size
      go_wp2
      go_ret
      exact ⟨_, rfl, hO, hB⟩

set_option maxHeartbeats 400000 in
theorem TrmCanon_none (ao : Option Addr) (cap : Nat) (w : World) :
    Calls Tryd.prog 61 #[.slice ao 0 cap] w fun e w' => ∃ v, e = .returned v ∧ OwnC w' w.heap.size v (canonOf []) ∧ Below w.heap.size w w' := by
  go_enter Tryd.func61, Tryd.ntmps61
  go_wp2_with fail
  refine (numberVars_none _ _ _).mono ?_
  rintro e w0 ⟨v0, rfl, hv0, _, hb0⟩
  go_wp2
  refine wp_loop_rounds 1 ?_
  rw [rounds_succ]
  go_wp2
  go_ret
  exact ⟨_, rfl, World.ownsRow_nil _ _ _ _, hb0⟩

/-- The program's TrmCanon, of whatever places. -/
theorem TrmCanon_any (ao : Option Addr) (cap : Nat) (t : List C) (w : World) (hm : t.length ≤ 1048576) (hA : Row w ao t) (hw : WfC t) :
    Calls Tryd.prog 61 #[.slice ao t.length cap] w fun e w' => ∃ v, e = .returned v ∧ OwnC w' w.heap.size v (canonOf t) ∧ Below w.heap.size w w' := by
  rcases hA with rfl | ⟨b, off, rfl, hA⟩
  · exact TrmCanon_none ao cap w
  · exact TrmCanon_some b off cap t w hm hA hw
end Go.Proofs.YtajkmebjmdolaaaDoor
