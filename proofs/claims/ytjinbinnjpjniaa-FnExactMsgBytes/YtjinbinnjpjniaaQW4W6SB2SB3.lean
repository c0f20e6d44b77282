import Derived.Test.YtjinbinnjpjniaaQW2W3
import Derived.Test.YtjinbinnjpjniaaQW5
import Derived.Test.YtjinbinnjpjniaaQW10W13SB1
/- The walks of the model's l1End and TrmOk. -/
namespace Go.Proofs.Ytjinbinnjpjniaa
open Go.RowKit
set_option linter.unusedVariables false
set_option linter.unusedSimpArgs false

/-- Where the term that begins at a place ends; -1, if it does not. -/
def endV (t : List C) (p : Nat) : Int := match ends 1 (t.drop p) with
  | some e => (p : Int) + e
  | none => -1

theorem ends_step {t : List C} {j : Nat} (h : j < t.length) (m : Int) (hm : 0 < m) : ends m (t.drop j) = (ends (m - 1 + ari t[j]) (t.drop (j + 1))).map (· + 1) := by
  rw [List.drop_eq_getElem_cons h]; simp [ends]; omega
theorem ends_zero {t : List C} {j : Nat} (m : Int) (hm : m ≤ 0) : ends m (t.drop j) = some 0 := by
  cases t.drop j <;> simp [ends, hm]
theorem ends_none {t : List C} {j : Nat} (h : ¬ j < t.length) (m : Int) (hm : 0 < m) : ends m (t.drop j) = none := by
  rw [List.drop_eq_nil_iff.2 (by omega)]; simp [ends]; omega

theorem endV_step {t : List C} {p j : Nat} (hpj : p ≤ j) (h : j < t.length) (m : Int) (hm : 0 < m) (hg : ends 1 (t.drop p) = (ends m (t.drop j)).map (· + (j - p))) :
    ends 1 (t.drop p) = (ends (m - 1 + ari t[j]) (t.drop (j + 1))).map (· + (j + 1 - p)) := by
  rw [hg, ends_step h m hm, Option.map_map]
  congr 1
  funext x
  simp; omega

theorem endV_end {t : List C} {p j : Nat} (hpj : p ≤ j) (m : Int) (hm : m ≤ 0) (hg : ends 1 (t.drop p) = (ends m (t.drop j)).map (· + (j - p))) : endV t p = j := by
  unfold endV
  rw [hg, ends_zero m hm]
  simp; omega

theorem endV_none {t : List C} {p j : Nat} (h : ¬ j < t.length) (m : Int) (hm : 0 < m) (hg : ends 1 (t.drop p) = (ends m (t.drop j)).map (· + (j - p))) : endV t p = -1 := by
  unfold endV
  rw [hg, ends_none h m hm]
  rfl

set_option maxHeartbeats 1000000 in
theorem l1End_some (b off cap p : Nat) (t : List C) (w : World) (hm : t.length ≤ 40) (hp : p ≤ t.length) (hA : At w b off t) (hok : ∀ c ∈ t, okC c = true) :
    Calls Try.prog 56 #[.slice (some ⟨b, off, none⟩) t.length cap, .int .i64 p] w fun e w' => e = .returned (.int .i64 (endV t p)) ∧ w' = w := by
  have HO := hide hok
  clear hok
  go_enter Try.func56, Try.ntmps56
  go_wp2
  go_loop [5, 6] (fun o i => ∃ (j : Nat) (m : Int), p ≤ j ∧ j ≤ t.length ∧ i = .int .i64 j ∧ o = .int .i64 m ∧ 0 ≤ m ∧ m ≤ 1 + 3 * j ∧ ends 1 (t.drop p) = (ends m (t.drop j)).map (· + (j - p))) (fun _ i => t.length - (intOf i).toNat)
  case atStart => exact ⟨p, 1, Nat.le_refl _, hp, rfl, rfl, by omega, by omega, by simp⟩
  case round =>
    obtain ⟨j, m, hpj, hj, rfl, rfl, hm0, hm1, hg⟩ := hrel
    have H := hide hg
    clear hg
    by_cases hmp : 0 < m
    · by_cases hlt : j < t.length
      · obtain ⟨c0, c1, c2⟩ := hA j hlt
        have hari := ari_ok (unhide HO _ (List.getElem_mem hlt))
        obtain ⟨c, hc⟩ : ∃ c, c = t[j] := ⟨_, rfl⟩
        rw [← hc] at c0 c1 c2 hari
        have HC := hide hc
        clear hc
        by_cases h3 : c.k = 3
        · have hb : (c.k == 3) = true := by simpa using h3
          have ha : ari c = c.n := by simp [ari, h3]
          rw [ha] at hari
          have HA := hide ha
          clear ha h3
          go_wp2
          go_round
          case rel => exact ⟨j + 1, m - 1 + c.n, by omega, by omega, by go_num, by go_num, by omega, by omega, by rw [← unhide HA, unhide HC]; exact endV_step hpj hlt m hmp (unhide H)⟩
          case measure => simp [intOf]; omega
        · have hb : (c.k == 3) = false := by simpa using h3
          have ha : ari c = 0 := by simp [ari, h3]
          have HA := hide ha
          clear ha h3 hari
          go_wp2
          go_round
          case rel => exact ⟨j + 1, m - 1, by omega, by omega, by go_num, by go_num, by omega, by omega, by have := endV_step hpj hlt m hmp (unhide H); rw [← unhide HC, unhide HA, Int.add_zero] at this; exact this⟩
          case measure => simp [intOf]; omega
      · go_wp2
        go_ret
        exact ⟨ret_int (by rw [endV_none hlt m hmp (unhide H)]), rfl⟩
    · go_wp2
      go_ret
      exact ⟨ret_int (by rw [endV_end hpj m (by omega) (unhide H)]), rfl⟩

theorem endV_whole {t : List C} (h1 : 1 ≤ t.length) : endV t 0 = t.length ↔ ends 1 t = some t.length := by
  unfold endV
  rw [List.drop_zero]
  cases ends 1 t with
  | none => simp
  | some e => simp; omega

set_option maxHeartbeats 1000000 in
theorem specTrmOk_some (b off cap : Nat) (t : List C) (w : World) (hm : t.length ≤ maxLen) (hA : At w b off t) (hF : Fit t) :
    Calls Try.prog 31 #[.slice (some ⟨b, off, none⟩) t.length cap] w fun e w' => e = .returned (.bool (trm t)) ∧ Below w.heap.size w w' := by
  unfold maxLen at hm
  have HT := hide (trm_iff t)
  by_cases h0 : t.length = 0
  · have hz : ((t.length : Int) == 0) = true := by simp only [beq_iff_eq]; omega
    go_enter Try.func31, Try.ntmps31
    go_wp2
    go_ret
    exact ⟨ret_bool (iff_no (unhide HT) (by omega)), Below.refl _ _⟩
  · have hz : ((t.length : Int) == 0) = false := by rw [beq_eq_false_iff_ne]; omega
    by_cases h40 : t.length ≤ 40
    · go_enter Try.func31, Try.ntmps31
      go_wp2
      go_loopw [3] (fun i wr => ∃ (k : Nat), k ≤ t.length ∧ i = .int .i64 k ∧ (∀ j, (h : j < t.length) → j < k → okC t[j] = true) ∧ Below w.heap.size w wr) (fun i _ => t.length - (intOf i).toNat)
      case atStart => exact ⟨0, Nat.zero_le _, rfl, fun j _ h => absurd h (Nat.not_lt_zero _), Below.refl _ _⟩
      case round =>
        obtain ⟨k, hk, rfl, hg, hB⟩ := hrel
        have H := hide hg
        clear hg
        have hA' := hA.below hB
        by_cases hlt : k < t.length
        · obtain ⟨c0, c1, c2⟩ := hA' k hlt
          have hs := hF.get k hlt
          obtain ⟨c, hc⟩ : ∃ c, c = t[k] := ⟨_, rfl⟩
          rw [← hc] at c0 c1 c2 hs
          have HC := hide hc
          clear hc
          cases ho : okC c with
          | false =>
            go_wp2_with fail
            refine (l1Cell_any c _ hs).mono ?_
            rintro e w1 ⟨rfl, hb1⟩
            go_wp2
            go_ret
            refine ⟨ret_bool (iff_no (unhide HT) (fun h => ?_)), bstep hB hb1⟩
            have := h.2.2.1 _ (List.getElem_mem hlt)
            rw [← unhide HC, ho] at this
            cases this
          | true =>
            go_wp2_with fail
            refine (l1Cell_any c _ hs).mono ?_
            rintro e w1 ⟨rfl, hb1⟩
            clear c0 c1 c2
            go_wp2
            go_roundw
            case rel =>
              refine ⟨k + 1, by omega, by go_num, fun j hj hjk => ?_, bstep hB hb1⟩
              by_cases e : j = k
              · subst e; rw [← unhide HC]; exact ho
              · exact unhide H j hj (by omega)
            case measure => simp [intOf]; omega
        · have hall : ∀ c ∈ t, okC c = true := fun c hc => by
            obtain ⟨j, hj, rfl⟩ := List.mem_iff_getElem.1 hc
            exact unhide H j hj (by omega)
          have HALL := hide hall
          clear hall
          go_wp2_with fail
          refine (l1End_some b off cap 0 t _ h40 (Nat.zero_le _) hA' (unhide HALL)).mono ?_
          rintro e w1 ⟨rfl, rfl⟩
          go_wp2
          go_ret
          refine ⟨ret_bool ?_, hB⟩
          rw [Bool.eq_iff_iff, unhide HT, ← endV_whole (by omega)]
          simp only [beq_iff_eq]
          exact ⟨fun h => ⟨by omega, h40, unhide HALL, h⟩, fun h => h.2.2.2⟩
    · go_enter Try.func31, Try.ntmps31
      go_wp2
      go_ret
      exact ⟨ret_bool (iff_no (unhide HT) (by omega)), Below.refl _ _⟩

set_option maxHeartbeats 400000 in
theorem specTrmOk_none (ao : Option Addr) (cap : Nat) (w : World) :
    Calls Try.prog 31 #[.slice ao 0 cap] w fun e w' => e = .returned (.bool false) ∧ Below w.heap.size w w' := by
  go_enter Try.func31, Try.ntmps31
  go_wp2
  go_ret
  exact ⟨rfl, Below.refl _ _⟩

/-- The model's TrmOk, of whatever places: whether they are a term. -/
theorem specTrmOk_any (ao : Option Addr) (cap : Nat) (t : List C) (w : World) (hm : t.length ≤ maxLen) (hA : Row w ao t) (hF : Fit t) :
    Calls Try.prog 31 #[.slice ao t.length cap] w fun e w' => e = .returned (.bool (trm t)) ∧ Below w.heap.size w w' := by
  rcases hA with rfl | ⟨b, off, rfl, hA⟩
  · rw [trm_nil]; exact specTrmOk_none ao cap w
  · exact specTrmOk_some b off cap t w hm hA hF
end Go.Proofs.Ytjinbinnjpjniaa

/- eqTrmCellS of whatever places; the walk of the law FnExactTrmOk. -/
namespace Go.Proofs.Ytjinbinnjpjniaa
open Go.RowKit
set_option linter.unusedVariables false
set_option linter.unusedSimpArgs false

set_option maxHeartbeats 400000 in
theorem eqTrmCellS_far (ao bo : Option Addr) (n m cap cap' : Nat) (w : World) (hl : n ≠ m) :
    Calls Try.prog 16 #[.slice ao n cap, .slice bo m cap'] w fun e w' => e = .returned (.bool false) ∧ Below w.heap.size w w' := by
  have hne : ((n : Int) != (m : Int)) = true := by rw [bne_iff_ne]; omega
  go_enter Try.func16, Try.ntmps16
  go_wp2
  go_ret
  exact ⟨rfl, Below.refl _ _⟩

set_option maxHeartbeats 400000 in
theorem eqTrmCellS_none (ao bo : Option Addr) (cap cap' : Nat) (w : World) :
    Calls Try.prog 16 #[.slice ao 0 cap, .slice bo 0 cap'] w fun e w' => e = .returned (.bool true) ∧ Below w.heap.size w w' := by
  go_enter Try.func16, Try.ntmps16
  go_wp2
  refine wp_loop_rounds 1 ?_
  rw [rounds_succ]
  go_wp2
  go_ret
  exact ⟨rfl, Below.refl _ _⟩

/-- Whether two lists of places are the same. -/
theorem eqTrmCellS_any (ao bo : Option Addr) (cap cap' : Nat) (t u : List C) (w : World) (hm : t.length ≤ maxLen) (hA : Row w ao t) (hU : Row w bo u) :
    Calls Try.prog 16 #[.slice ao t.length cap, .slice bo u.length cap'] w fun e w' => e = .returned (.bool (sameS t u)) ∧ Below w.heap.size w w' := by
  by_cases hl : t.length = u.length
  · rcases hA with rfl | ⟨b, off, rfl, hA⟩
    · have hu : u = [] := List.length_eq_zero_iff.1 hl.symm
      subst hu
      exact eqTrmCellS_none ao bo cap cap' w
    · rcases hU with rfl | ⟨b', off', rfl, hU⟩
      · have ht : t = [] := List.length_eq_zero_iff.1 hl
        subst ht
        exact eqTrmCellS_none _ bo cap cap' w
      · exact eqTrmCellS_some b off cap b' off' cap' t u w hm hA hU hl
  · rw [sameS_no (fun h => hl (by rw [h]))]
    exact eqTrmCellS_far ao bo _ _ cap cap' w hl

theorem row_of_own {w : World} {base e g cap : Nat} {t : List C} (h : w.ownsRow base e 3 (.slice (some ⟨g, 0, none⟩) t.length cap) t.length (flat t)) : Row w (some ⟨g, 0, none⟩) t :=
  .inr ⟨g, 0, rfl, owns_at h rfl⟩

end Go.Proofs.Ytjinbinnjpjniaa

/- The walks of the laws' helpers over bindings: szSubBind(S), toSubBind(S), eqSubBind(S). -/
namespace Go.Proofs.Ytjinbinnjpjniaa
open Go.RowKit
set_option linter.unusedVariables false
set_option linter.unusedSimpArgs false

theorem Row.alloc {w : World} {ao : Option Addr} {t : List C} (h : Row w ao t) (o : Obj) : Row (w.alloc o) ao t := h.below (cell_below _ _)

end Go.Proofs.Ytjinbinnjpjniaa

/- The walks of toSubBindS, eqSubBind(S). -/
namespace Go.Proofs.Ytjinbinnjpjniaa
open Go.RowKit
set_option linter.unusedVariables false
set_option linter.unusedSimpArgs false

theorem Try.infoSub : (Try.prog.info? 126).map (fun i => (i.zero, i.size, i.bytes)) = some (some (.agg #[.int .i64 0, .slice none 0 0]), 2, 32) := by kernel_rfl

theorem set2_take (xs : List Value) (k : Nat) (a b : Value) (h : k * 2 + 2 ≤ xs.length) :
    ((xs.set (k * 2) a).set (k * 2 + 1) b).take ((k + 1) * 2) = xs.take (k * 2) ++ [a, b] := by
  apply List.ext_getElem?
  intro i
  rw [List.getElem?_take]
  by_cases h1 : i < k * 2
  · rw [if_pos (by omega), List.getElem?_append_left (by simp; omega), List.getElem?_set_ne (by omega), List.getElem?_set_ne (by omega), List.getElem?_take, if_pos h1]
  · rw [List.getElem?_append_right (by simp; omega)]
    have hl : (xs.take (k * 2)).length = k * 2 := by simp; omega
    rw [hl]
    by_cases e0 : i = k * 2
    · subst e0; rw [if_pos (by omega), List.getElem?_set_ne (by omega), List.getElem?_set_self (by omega)]; simp
    by_cases e1 : i = k * 2 + 1
    · subst e1; rw [if_pos (by omega), List.getElem?_set_self (by simp; omega)]; simp [show k * 2 + 1 - k * 2 = 1 by omega]
    · rw [if_neg (by omega), List.getElem?_eq_none (by simp; omega)]

/-- How far toSubBindS has come. -/
def ToB (w : World) (s : List B) (k : Nat) (wr : World) : Prop := ∃ xs us, wr.ownsRow w.heap.size 126 2 (.slice (some ⟨w.heap.size, 0, none⟩) s.length s.length) s.length xs ∧ us.length = k ∧ xs.take (k * 2) = flatB (s.take k) us ∧
    (∀ i, (h : i < s.length) → (h' : i < us.length) → OwnC wr w.heap.size us[i] s[i].t) ∧ (us.filterMap Value.ownBlock).Nodup ∧ (∀ u ∈ us, ∀ j, u.ownBlock = some j → w.heap.size < j ∧ j < wr.heap.size) ∧ Below w.heap.size w wr

theorem toB_round {w wr w1 : World} {s : List B} {k g : Nat} (hk : k < s.length) (hT : ToB w s k wr) (hb1 : Below wr.heap.size wr w1) (hgl : g < w1.heap.size)
    (ho : w1.ownsRow wr.heap.size 55 3 (.slice (some ⟨g, 0, none⟩) s[k].t.length s[k].t.length) s[k].t.length (flat s[k].t)) :
    (∃ a b, w1.cell? ⟨w.heap.size, k * 2, none⟩ = some a ∧ w1.cell? ⟨w.heap.size, k * 2 + 1, none⟩ = some b) ∧ (w1.frozen? ⟨w.heap.size, k * 2, none⟩ = false ∧ w1.frozen? ⟨w.heap.size, k * 2 + 1, none⟩ = false) ∧
    ToB w s (k + 1) ((w1.setCell ⟨w.heap.size, k * 2, none⟩ (.int .i64 s[k].v)).setCell ⟨w.heap.size, k * 2 + 1, none⟩ (.slice (some ⟨g, 0, none⟩) s[k].t.length s[k].t.length)) := by
  obtain ⟨xs, us, h1, h2, h3, h4, h5, h6, h7⟩ := hT
  have hl : xs.length = s.length * 2 := h1.1
  have hgw : wr.heap.size ≤ g := (ho.lt g rfl).1
  have hsz : w.heap.size < wr.heap.size := (h1.lt _ rfl).2
  have o1 := own_below h1 hb1
  have s1 := o1.stored (k * 2) (.int .i64 s[k].v)
  have s2 := s1.1.stored (k * 2 + 1) (.slice (some ⟨g, 0, none⟩) s[k].t.length s[k].t.length)
  have hblk : ∀ j, j ≠ w.heap.size → ((w1.setCell ⟨w.heap.size, k * 2, none⟩ (.int .i64 s[k].v)).setCell ⟨w.heap.size, k * 2 + 1, none⟩ (.slice (some ⟨g, 0, none⟩) s[k].t.length s[k].t.length)).heap[j]? = w1.heap[j]? := fun j hj => by
    rw [Below.heap_setCell _ _ _ _ hj, Below.heap_setCell _ _ _ _ hj]
  refine ⟨⟨_, _, (o1.cellAt (k * 2) (by omega)).trans (List.getElem?_eq_getElem (by omega)), (o1.cellAt (k * 2 + 1) (by omega)).trans (List.getElem?_eq_getElem (by omega))⟩, ⟨o1.frozenAt _, o1.frozenAt _⟩, ?_⟩
  refine ⟨_, us ++ [.slice (some ⟨g, 0, none⟩) s[k].t.length s[k].t.length], s2.1, by simp [h2], ?_, fun i hi hi' => ?_, ?_, fun u hu j e => ?_, ?_⟩
  · rw [set2_take xs k _ _ (by omega), h3, List.take_succ_eq_append_getElem hk, flatB_append _ _ _ _ (by simp; omega)]
    rfl
  · by_cases e : i < us.length
    · rw [List.getElem_append_left e]
      refine own_block (own_below (h4 i hi e) hb1) (fun j ej => hblk j ?_)
      have := h6 _ (List.getElem_mem e) j ej
      omega
    · obtain rfl : i = k := by simp at hi'; omega
      rw [List.getElem_append_right (by omega)]
      simp only [h2, Nat.sub_self, List.getElem_cons_zero]
      refine own_lo (own_block ho (fun j ej => hblk j ?_)) (fun j ej => ?_)
      · have : g = j := by simpa [Value.ownBlock] using ej
        omega
      · have : g = j := by simpa [Value.ownBlock] using ej
        omega
  · rw [List.filterMap_append, List.nodup_append]
    refine ⟨h5, by simp [Value.ownBlock], fun a ha b hb => ?_⟩
    obtain ⟨u, hu, e⟩ := List.mem_filterMap.1 ha
    have := h6 u hu a e
    simp [Value.ownBlock] at hb
    omega
  · have hs2 : ((w1.setCell ⟨w.heap.size, k * 2, none⟩ (.int .i64 s[k].v)).setCell ⟨w.heap.size, k * 2 + 1, none⟩ (.slice (some ⟨g, 0, none⟩) s[k].t.length s[k].t.length)).heap.size = w1.heap.size := by simp
    rw [hs2]
    have := hb1.size
    rcases List.mem_append.1 hu with hu | hu
    · have := h6 u hu j e
      omega
    · simp at hu
      subst hu
      have : g = j := by simpa [Value.ownBlock] using e
      omega
  · exact ((h7.trans (hb1.mono (by omega))).setCell (p := ⟨w.heap.size, _, none⟩) (Nat.le_refl _) _).setCell (p := ⟨w.heap.size, _, none⟩) (Nat.le_refl _) _

theorem toB_end {w wr : World} {s : List B} (hT : ToB w s s.length wr) : OwnB wr w.heap.size wr.heap.size (.slice (some ⟨w.heap.size, 0, none⟩) s.length s.length) s ∧ Below w.heap.size w wr := by
  obtain ⟨xs, us, h1, h2, h3, h4, h5, h6, h7⟩ := hT
  have hl := h1.1
  have hlt : w.heap.size < wr.heap.size := (h1.lt _ rfl).2
  rw [List.take_of_length_le (by omega), List.take_of_length_le (by omega)] at h3
  refine ⟨⟨us, h2, by rw [← h3]; exact h1, h4, h5, fun u hu k e => (h6 u hu k e).2, fun k e => ?_⟩, h7⟩
  have : w.heap.size = k := by simpa [Value.ownBlock] using e
  omega

end Go.Proofs.Ytjinbinnjpjniaa
