import Derived.Test.YtgfjembemjngiaaQW2W3
import Derived.Test.YtgfjembemjngiaaQW5
import Derived.Test.YtgfjembemjngiaaQW13SB1
/- The walks of the model's l1End and TrmOk. -/
namespace Go.Proofs.Ytgfjembemjngiaa
open Go.RowKit
set_option linter.unusedVariables false
set_option linter.unusedSimpArgs false

/-- Where the term that begins at a place ends; -1, if it does not. -/
def endV (t : List C) (p : Nat) : Int := match ends 1 (t.drop p) with
  | some e => (p : Int) + e
  | none => -1

theorem ends_step {t : List C} {j : Nat} (h : j < t.length) (m : Int) (hm : 0 < m) : ends m (t.drop j) = (ends (m - 1 + ari t[j]) (t.drop (j + 1))).map (· + 1) := by
  rw [List.drop_eq_getElem_cons h]; simp [ends]; omega
theorem ends_zero {t : List C} {j : Nat} (m : Int) (hm : m ≤ 0) : ends m (t.drop j) = some 0 := by
  cases t.drop j <;> simp [ends, hm]
theorem ends_none {t : List C} {j : Nat} (h : ¬ j < t.length) (m : Int) (hm : 0 < m) : ends m (t.drop j) = none := by
  rw [List.drop_eq_nil_iff.2 (by omega)]; simp [ends]; omega

theorem endV_step {t : List C} {p j : Nat} (hpj : p ≤ j) (h : j < t.length) (m : Int) (hm : 0 < m) (hg : ends 1 (t.drop p) = (ends m (t.drop j)).map (· + (j - p))) :
    ends 1 (t.drop p) = (ends (m - 1 + ari t[j]) (t.drop (j + 1))).map (· + (j + 1 - p)) := by
  rw [hg, ends_step h m hm, Option.map_map]
  congr 1
  funext x
  simp; omega

theorem endV_end {t : List C} {p j : Nat} (hpj : p ≤ j) (m : Int) (hm : m ≤ 0) (hg : ends 1 (t.drop p) = (ends m (t.drop j)).map (· + (j - p))) : endV t p = j := by
  unfold endV
  rw [hg, ends_zero m hm]
  simp; omega

theorem endV_none {t : List C} {p j : Nat} (h : ¬ j < t.length) (m : Int) (hm : 0 < m) (hg : ends 1 (t.drop p) = (ends m (t.drop j)).map (· + (j - p))) : endV t p = -1 := by
  unfold endV
  rw [hg, ends_none h m hm]
  rfl

set_option maxHeartbeats 1000000 in
theorem l1End_some (b off cap p : Nat) (t : List C) (w : World) (hm : t.length ≤ 40) (hp : p ≤ t.length) (hA : At w b off t) (hok : ∀ c ∈ t, okC c = true) :
    Calls Try.prog 116 #[.slice (some ⟨b, off, none⟩) t.length cap, .int .i64 p] w fun e w' => e = .returned (.int .i64 (endV t p)) ∧ w' = w := by
  have HO := hide hok
  clear hok
  go_enter Try.func116, Try.ntmps116
  go_wp2
  go_loop [5, 6] (fun o i => ∃ (j : Nat) (m : Int), p ≤ j ∧ j ≤ t.length ∧ i = .int .i64 j ∧ o = .int .i64 m ∧ 0 ≤ m ∧ m ≤ 1 + 3 * j ∧ ends 1 (t.drop p) = (ends m (t.drop j)).map (· + (j - p))) (fun _ i => t.length - (intOf i).toNat)
  case atStart => exact ⟨p, 1, Nat.le_refl _, hp, rfl, rfl, by omega, by omega, by simp⟩
  case round =>
    obtain ⟨j, m, hpj, hj, rfl, rfl, hm0, hm1, hg⟩ := hrel
    have H := hide hg
    clear hg
    by_cases hmp : 0 < m
    · by_cases hlt : j < t.length
      · obtain ⟨c0, c1, c2⟩ := hA j hlt
        have hari := ari_ok (unhide HO _ (List.getElem_mem hlt))
        obtain ⟨c, hc⟩ : ∃ c, c = t[j] := ⟨_, rfl⟩
        rw [← hc] at c0 c1 c2 hari
        have HC := hide hc
        clear hc
        by_cases h3 : c.k = 3
        · have hb : (c.k == 3) = true := by simpa using h3
          have ha : ari c = c.n := by simp [ari, h3]
          rw [ha] at hari
          have HA := hide ha
          clear ha h3
          go_wp2
          go_round
          case rel => exact ⟨j + 1, m - 1 + c.n, by omega, by omega, by go_num, by go_num, by omega, by omega, by rw [← unhide HA, unhide HC]; exact endV_step hpj hlt m hmp (unhide H)⟩
          case measure => simp [intOf]; omega
        · have hb : (c.k == 3) = false := by simpa using h3
          have ha : ari c = 0 := by simp [ari, h3]
          have HA := hide ha
          clear ha h3 hari
          go_wp2
          go_round
          case rel => exact ⟨j + 1, m - 1, by omega, by omega, by go_num, by go_num, by omega, by omega, by have := endV_step hpj hlt m hmp (unhide H); rw [← unhide HC, unhide HA, Int.add_zero] at this; exact this⟩
          case measure => simp [intOf]; omega
      · go_wp2
        go_ret
        exact ⟨ret_int (by rw [endV_none hlt m hmp (unhide H)]), rfl⟩
    · go_wp2
      go_ret
      exact ⟨ret_int (by rw [endV_end hpj m (by omega) (unhide H)]), rfl⟩

theorem endV_whole {t : List C} (h1 : 1 ≤ t.length) : endV t 0 = t.length ↔ ends 1 t = some t.length := by
  unfold endV
  rw [List.drop_zero]
  cases ends 1 t with
  | none => simp
  | some e => simp; omega

set_option maxHeartbeats 1000000 in
theorem specTrmOk_some (b off cap : Nat) (t : List C) (w : World) (hm : t.length ≤ maxLen) (hA : At w b off t) (hF : Fit t) :
    Calls Try.prog 81 #[.slice (some ⟨b, off, none⟩) t.length cap] w fun e w' => e = .returned (.bool (trm t)) ∧ Below w.heap.size w w' := by
  unfold maxLen at hm
  have HT := hide (trm_iff t)
  by_cases h0 : t.length = 0
  · have hz : ((t.length : Int) == 0) = true := by simp only [beq_iff_eq]; omega
    go_enter Try.func81, Try.ntmps81
    go_wp2
    go_ret
    exact ⟨ret_bool (iff_no (unhide HT) (by omega)), Below.refl _ _⟩
  · have hz : ((t.length : Int) == 0) = false := by rw [beq_eq_false_iff_ne]; omega
    by_cases h40 : t.length ≤ 40
    · go_enter Try.func81, Try.ntmps81
      go_wp2
      go_loopw [3] (fun i wr => ∃ (k : Nat), k ≤ t.length ∧ i = .int .i64 k ∧ (∀ j, (h : j < t.length) → j < k → okC t[j] = true) ∧ Below w.heap.size w wr) (fun i _ => t.length - (intOf i).toNat)
      case atStart => exact ⟨0, Nat.zero_le _, rfl, fun j _ h => absurd h (Nat.not_lt_zero _), Below.refl _ _⟩
      case round =>
        obtain ⟨k, hk, rfl, hg, hB⟩ := hrel
        have H := hide hg
        clear hg
        have hA' := hA.below hB
        by_cases hlt : k < t.length
        · obtain ⟨c0, c1, c2⟩ := hA' k hlt
          have hs := hF.get k hlt
          obtain ⟨c, hc⟩ : ∃ c, c = t[k] := ⟨_, rfl⟩
          rw [← hc] at c0 c1 c2 hs
          have HC := hide hc
          clear hc
          cases ho : okC c with
          | false =>
            go_wp2_with fail
            refine (l1Cell_any c _ hs).mono ?_
            rintro e w1 ⟨rfl, hb1⟩
            go_wp2
            go_ret
            refine ⟨ret_bool (iff_no (unhide HT) (fun h => ?_)), bstep hB hb1⟩
            have := h.2.2.1 _ (List.getElem_mem hlt)
            rw [← unhide HC, ho] at this
            cases this
          | true =>
            go_wp2_with fail
            refine (l1Cell_any c _ hs).mono ?_
            rintro e w1 ⟨rfl, hb1⟩
            clear c0 c1 c2
            go_wp2
            go_roundw
            case rel =>
              refine ⟨k + 1, by omega, by go_num, fun j hj hjk => ?_, bstep hB hb1⟩
              by_cases e : j = k
              · subst e; rw [← unhide HC]; exact ho
              · exact unhide H j hj (by omega)
            case measure => simp [intOf]; omega
        · have hall : ∀ c ∈ t, okC c = true := fun c hc => by
            obtain ⟨j, hj, rfl⟩ := List.mem_iff_getElem.1 hc
            exact unhide H j hj (by omega)
          have HALL := hide hall
          clear hall
          go_wp2_with fail
          refine (l1End_some b off cap 0 t _ h40 (Nat.zero_le _) hA' (unhide HALL)).mono ?_
          rintro e w1 ⟨rfl, rfl⟩
          go_wp2
          go_ret
          refine ⟨ret_bool ?_, hB⟩
          rw [Bool.eq_iff_iff, unhide HT, ← endV_whole (by omega)]
          simp only [beq_iff_eq]
          exact ⟨fun h => ⟨by omega, h40, unhide HALL, h⟩, fun h => h.2.2.2⟩
    · go_enter Try.func81, Try.ntmps81
      go_wp2
      go_ret
      exact ⟨ret_bool (iff_no (unhide HT) (by omega)), Below.refl _ _⟩

set_option maxHeartbeats 400000 in
theorem specTrmOk_none (ao : Option Addr) (cap : Nat) (w : World) :
    Calls Try.prog 81 #[.slice ao 0 cap] w fun e w' => e = .returned (.bool false) ∧ Below w.heap.size w w' := by
  go_enter Try.func81, Try.ntmps81
  go_wp2
  go_ret
  exact ⟨rfl, Below.refl _ _⟩

/-- The model's TrmOk, of whatever places: whether they are a term. -/
theorem specTrmOk_any (ao : Option Addr) (cap : Nat) (t : List C) (w : World) (hm : t.length ≤ maxLen) (hA : Row w ao t) (hF : Fit t) :
    Calls Try.prog 81 #[.slice ao t.length cap] w fun e w' => e = .returned (.bool (trm t)) ∧ Below w.heap.size w w' := by
  rcases hA with rfl | ⟨b, off, rfl, hA⟩
  · rw [trm_nil]; exact specTrmOk_none ao cap w
  · exact specTrmOk_some b off cap t w hm hA hF
end Go.Proofs.Ytgfjembemjngiaa

/- eqTrmCellS of whatever places; the walk of the law FnExactTrmOk. -/
namespace Go.Proofs.Ytgfjembemjngiaa
open Go.RowKit
set_option linter.unusedVariables false
set_option linter.unusedSimpArgs false

set_option maxHeartbeats 400000 in
theorem eqTrmCellS_far (ao bo : Option Addr) (n m cap cap' : Nat) (w : World) (hl : n ≠ m) :
    Calls Try.prog 21 #[.slice ao n cap, .slice bo m cap'] w fun e w' => e = .returned (.bool false) ∧ Below w.heap.size w w' := by
  have hne : ((n : Int) != (m : Int)) = true := by rw [bne_iff_ne]; omega
  go_enter Try.func21, Try.ntmps21
  go_wp2
  go_ret
  exact ⟨rfl, Below.refl _ _⟩

set_option maxHeartbeats 400000 in
theorem eqTrmCellS_none (ao bo : Option Addr) (cap cap' : Nat) (w : World) :
    Calls Try.prog 21 #[.slice ao 0 cap, .slice bo 0 cap'] w fun e w' => e = .returned (.bool true) ∧ Below w.heap.size w w' := by
  go_enter Try.func21, Try.ntmps21
  go_wp2
  refine wp_loop_rounds 1 ?_
  rw [rounds_succ]
  go_wp2
  go_ret
  exact ⟨rfl, Below.refl _ _⟩

/-- Whether two lists of places are the same. -/
theorem eqTrmCellS_any (ao bo : Option Addr) (cap cap' : Nat) (t u : List C) (w : World) (hm : t.length ≤ maxLen) (hA : Row w ao t) (hU : Row w bo u) :
    Calls Try.prog 21 #[.slice ao t.length cap, .slice bo u.length cap'] w fun e w' => e = .returned (.bool (sameS t u)) ∧ Below w.heap.size w w' := by
  by_cases hl : t.length = u.length
  · rcases hA with rfl | ⟨b, off, rfl, hA⟩
    · have hu : u = [] := List.length_eq_zero_iff.1 hl.symm
      subst hu
      exact eqTrmCellS_none ao bo cap cap' w
    · rcases hU with rfl | ⟨b', off', rfl, hU⟩
      · have ht : t = [] := List.length_eq_zero_iff.1 hl
        subst ht
        exact eqTrmCellS_none _ bo cap cap' w
      · exact eqTrmCellS_some b off cap b' off' cap' t u w hm hA hU hl
  · rw [sameS_no (fun h => hl (by rw [h]))]
    exact eqTrmCellS_far ao bo _ _ cap cap' w hl

theorem row_of_own {w : World} {base e g cap : Nat} {t : List C} (h : w.ownsRow base e 3 (.slice (some ⟨g, 0, none⟩) t.length cap) t.length (flat t)) : Row w (some ⟨g, 0, none⟩) t :=
  .inr ⟨g, 0, rfl, owns_at h rfl⟩

end Go.Proofs.Ytgfjembemjngiaa

/- The walks of the laws' helpers over bindings: szSubBind(S), toSubBind(S), eqSubBind(S). -/
namespace Go.Proofs.Ytgfjembemjngiaa
open Go.RowKit
set_option linter.unusedVariables false
set_option linter.unusedSimpArgs false

set_option maxHeartbeats 400000 in
theorem szSubBind_any (v : Int) (ao : Option Addr) (cap : Nat) (t : List C) (l : Int) (w : World) (hm : t.length ≤ maxLen) (hA : Row w ao t) (hF : Fit t) (h0 : 0 ≤ l) (h1 : l ≤ 1048576) :
    Calls Try.prog 107 #[.agg #[.int .i64 v, .slice ao t.length cap], .int .i64 l] w fun e w' => ∃ r : Int, e = .returned (.int .i64 r) ∧ (r < 0 ∨ (0 ≤ r ∧ r + t.length ≤ l)) ∧ Below w.heap.size w w' := by
  go_enter Try.func107, Try.ntmps107
  go_wp2_with fail
  refine (szTrmCellS_any ao cap t l _ hm (hA.below (cell_below _ _)) hF h0 h1).mono ?_
  rintro e w1 ⟨r, rfl, hr, hb1⟩
  have hB := bstep (cell_below _ _) hb1
  by_cases hn : r < 0
  · go_wp2
    go_ret
    exact ⟨_, rfl, by omega, hB⟩
  · go_wp2
    go_ret
    exact ⟨_, rfl, by omega, hB⟩

set_option maxHeartbeats 1000000 in
theorem szSubBindS_some (b off cap : Nat) (s : List B) (l : Int) (w : World) (hm : s.length ≤ maxLen) (hA : AtB w b off s) (hF : FitB s) (h0 : 0 ≤ l) (h1 : l ≤ 1048576) :
    Calls Try.prog 71 #[.slice (some ⟨b, off, none⟩) s.length cap, .int .i64 l] w fun e w' => ∃ r : Int, e = .returned (.int .i64 r) ∧ (r < 0 ∨ (0 ≤ r ∧ r + s.length + tot s ≤ l)) ∧ Below w.heap.size w w' := by
  unfold maxLen at hm
  by_cases h : l - s.length < 0
  · go_enter Try.func71, Try.ntmps71
    go_wp2
    go_ret
    exact ⟨_, rfl, by omega, Below.refl _ _⟩
  · go_enter Try.func71, Try.ntmps71
    go_wp2
    go_loopw [1, 5] (fun m i wr => ∃ (k : Nat) (x : Int), k ≤ s.length ∧ i = .int .i64 k ∧ m = .int .i64 x ∧ 0 ≤ x ∧ x + s.length + tot (s.take k) ≤ l ∧ Below w.heap.size w wr) (fun _ i _ => s.length - (intOf i).toNat)
    case atStart => exact ⟨0, _, Nat.zero_le _, rfl, rfl, by omega, by simp [tot], Below.refl _ _⟩
    case round =>
      obtain ⟨k, x, hk, rfl, rfl, hx0, hx1, hB⟩ := hrel
      have HX := hide hx1
      have hxl : x ≤ 1048576 := by omega
      clear hx1
      by_cases hlt : k < s.length
      · obtain ⟨c0, ao, cp, c1, hc, hcm, hR⟩ := (hA.below hB) k hlt
        have hf := (hF _ (List.getElem_mem hlt)).1
        have HT := hide (tot_take_succ hlt)
        obtain ⟨y, hy⟩ : ∃ y, y = s[k] := ⟨_, rfl⟩
        rw [← hy] at c0 c1 hf hR hc HT
        clear hy
        have HC := hide hc
        have HCM := hide hcm
        have hml : y.t.length ≤ maxLen := by omega
        clear hc hcm
        go_wp2_with fail
        refine (szSubBind_any y.v ao cp y.t x _ hml hR hf hx0 hxl).mono ?_
        rintro e w1 ⟨r, rfl, hr, hb1⟩
        clear c0 c1
        have HR := hide hr
        clear hr
        by_cases hr : r < 0
        · go_wp2
          go_ret
          exact ⟨_, rfl, by omega, bstep hB hb1⟩
        · go_wp2
          go_roundw
          case rel =>
            refine ⟨k + 1, r, by omega, by go_num, rfl, by omega, ?_, bstep hB hb1⟩
            have := unhide HR
            have := unhide HX
            rw [unhide HT]
            omega
          case measure => simp [intOf]; omega
      · go_wp2
        go_ret
        refine ⟨_, rfl, .inr ⟨hx0, ?_⟩, hB⟩
        have := unhide HX
        rw [List.take_of_length_le (by omega)] at this
        exact this

set_option maxHeartbeats 400000 in
theorem szSubBindS_none (ao : Option Addr) (cap : Nat) (l : Int) (w : World) (h0 : 0 ≤ l) (h1 : l ≤ 1048576) :
    Calls Try.prog 71 #[.slice ao 0 cap, .int .i64 l] w fun e w' => ∃ r : Int, e = .returned (.int .i64 r) ∧ (r < 0 ∨ (0 ≤ r ∧ r + (0 : Nat) + tot [] ≤ l)) ∧ Below w.heap.size w w' := by
  go_enter Try.func71, Try.ntmps71
  go_wp2
  refine wp_loop_rounds 1 ?_
  rw [rounds_succ]
  go_wp2
  go_ret
  exact ⟨_, rfl, .inr ⟨h0, by simp [tot]⟩, Below.refl _ _⟩

theorem szSubBindS_any (ao : Option Addr) (cap : Nat) (s : List B) (l : Int) (w : World) (hm : s.length ≤ maxLen) (hA : RowB w ao s) (hF : FitB s) (h0 : 0 ≤ l) (h1 : l ≤ 1048576) :
    Calls Try.prog 71 #[.slice ao s.length cap, .int .i64 l] w fun e w' => ∃ r : Int, e = .returned (.int .i64 r) ∧ (r < 0 ∨ (0 ≤ r ∧ r + s.length + tot s ≤ l)) ∧ Below w.heap.size w w' := by
  rcases hA with rfl | ⟨b, off, rfl, hA⟩
  · exact szSubBindS_none ao cap l w h0 h1
  · exact szSubBindS_some b off cap s l w hm hA hF h0 h1

theorem Row.alloc {w : World} {ao : Option Addr} {t : List C} (h : Row w ao t) (o : Obj) : Row (w.alloc o) ao t := h.below (cell_below _ _)

set_option maxHeartbeats 400000 in
theorem toSubBind_any (v : Int) (ao : Option Addr) (cap : Nat) (t : List C) (w : World) (hm : t.length ≤ 1048576) (hA : Row w ao t) :
    Calls Try.prog 111 #[.agg #[.int .i64 v, .slice ao t.length cap]] w fun e w' => ∃ g, e = .returned (.agg #[.int .i64 v, .slice (some ⟨g, 0, none⟩) t.length t.length]) ∧ g < w'.heap.size ∧ w'.ownsRow w.heap.size 81 3 (.slice (some ⟨g, 0, none⟩) t.length t.length) t.length (flat t) ∧ Below w.heap.size w w' := by
  go_enter Try.func111, Try.ntmps111
  go_wp2_with fail
  obtain ⟨W, hW⟩ : ∃ W, W = ((w.alloc (Obj.cells #[Value.int IntKind.i64 v, Value.slice ao t.length cap] 154)).alloc (Obj.cells #[Value.int IntKind.i64 0, Value.slice none 0 0] 127)).alloc (Obj.cells #[Value.int IntKind.i64 v, Value.slice none 0 0] 127) := ⟨_, rfl⟩
  have hB0 : Below w.heap.size w W := by rw [hW]; exact below3 _ _ _ _
  have hsz : W.heap.size = w.heap.size + 3 := by rw [hW]; simp
  have c0 : W.cell? ⟨w.heap.size + 1 + 1, 0, none⟩ = some (.int .i64 v) := by rw [hW]; simp [go_sem]
  have c1 : W.cell? ⟨w.heap.size + 1 + 1, 1, none⟩ = some (.slice none 0 0) := by rw [hW]; simp [go_sem]
  have f1 : W.frozen? ⟨w.heap.size + 1 + 1, 1, none⟩ = false := by rw [hW]; simp [go_sem]
  have c2 : W.cell? ⟨w.heap.size + 1, 0, none⟩ = some (.int .i64 0) := by rw [hW]; simp [go_sem]
  have c3 : W.cell? ⟨w.heap.size + 1, 1, none⟩ = some (.slice none 0 0) := by rw [hW]; simp [go_sem]
  have f2 : W.frozen? ⟨w.heap.size + 1, 0, none⟩ = false := by rw [hW]; simp [go_sem]
  have f3 : W.frozen? ⟨w.heap.size + 1, 1, none⟩ = false := by rw [hW]; simp [go_sem]
  rw [← hW]
  clear hW
  refine (toTrmCellS_any ao cap t W hm (hA.below hB0)).mono ?_
  rintro e w1 ⟨rfl, ho1, hb1⟩
  have d0 := (hb1.cell (p := ⟨w.heap.size + 1 + 1, 0, none⟩) (by simp; omega)).trans c0
  have d1 := (hb1.cell (p := ⟨w.heap.size + 1 + 1, 1, none⟩) (by simp; omega)).trans c1
  have d2 := (hb1.cell (p := ⟨w.heap.size + 1, 0, none⟩) (by simp; omega)).trans c2
  have d3 := (hb1.cell (p := ⟨w.heap.size + 1, 1, none⟩) (by simp; omega)).trans c3
  have g1 := (hb1.frozen (p := ⟨w.heap.size + 1 + 1, 1, none⟩) (by simp; omega)).trans f1
  have g2 := (hb1.frozen (p := ⟨w.heap.size + 1, 0, none⟩) (by simp; omega)).trans f2
  have g3 := (hb1.frozen (p := ⟨w.heap.size + 1, 1, none⟩) (by simp; omega)).trans f3
  have hb2 := bstep hB0 hb1
  have hgl := ho1.lt W.heap.size rfl
  clear c0 c1 f1 c2 c3 f2 f3
  go_wp2
  refine bodyPost_ret (v := .agg #[.int .i64 v, .slice (some ⟨W.heap.size, 0, none⟩) t.length t.length]) (by simp [results, Try.results111, go_sem, *]) rfl ⟨_, rfl, ?_, ?_, ?_⟩
  · simp; omega
  · refine own_lo (base := W.heap.size) (own_block ho1 (fun k e => ?_)) (fun k e => ?_)
    · have e' : W.heap.size = k := by simpa [Value.ownBlock] using e
      rw [Below.heap_setCell _ _ _ _ (by simp; omega), Below.heap_setCell _ _ _ _ (by simp; omega), Below.heap_setCell _ _ _ _ (by simp; omega)]
    · have e' : W.heap.size = k := by simpa [Value.ownBlock] using e
      omega
  · exact ((hb2.setCell (p := ⟨w.heap.size + 1 + 1, 1, none⟩) (by simp; omega) _).setCell (p := ⟨w.heap.size + 1, 0, none⟩) (by simp) _).setCell (p := ⟨w.heap.size + 1, 1, none⟩) (by simp) _
end Go.Proofs.Ytgfjembemjngiaa
