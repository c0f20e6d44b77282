import Derived.Test.YtonpahhcfgdeoaaQW7W18T5BR1BG1
import Derived.Test.YtonpahhcfgdeoaaQW2W3W4W6SB2
import Derived.Test.YtonpahhcfgdeoaaQD3D4SG1SL1SO1
import Derived.Test.YtonpahhcfgdeoaaQU2SL2U3
/- The walk of the model's TrmArg. -/
namespace Go.Proofs.Ytonpahhcfgdeoaa
open Go.RowKit
set_option linter.unusedVariables false
set_option linter.unusedSimpArgs false

theorem drop_trees (c : C) (ks : List (List C)) (j : Nat) : (c :: ks.flatten).drop (1 + (ks.take j).flatten.length) = (ks.drop j).flatten := by
  rw [Nat.add_comm, List.drop_succ_cons]
  conv => lhs; rw [← List.take_append_drop j ks, List.flatten_append]
  rw [List.take_append_drop, List.drop_left]

theorem end_at {f : Nat} {c : C} {ks : List (List C)} (hk : ∀ k ∈ ks, Tm f k) {j : Nat} (hj : j < ks.length) : endV (c :: ks.flatten) (1 + (ks.take j).flatten.length) = ((1 + (ks.take j).flatten.length + ks[j].length : Nat) : Int) := by
  unfold endV
  rw [drop_trees, List.drop_eq_getElem_cons hj, List.flatten_cons]
  have e := ends_of_tree f ks[j] (hk _ (List.getElem_mem hj)) 0 (ks.drop (j + 1)).flatten
  have z : ∀ r, ends (0 : Nat) r = some 0 := fun r => by cases r <;> simp [ends]
  rw [z] at e
  simp at e
  rw [e]
  simp

theorem len_trees (ks : List (List C)) {j : Nat} (hj : j < ks.length) : (ks.take j).flatten.length + ks[j].length + (ks.drop (j + 1)).flatten.length = ks.flatten.length := by
  conv => rhs; rw [← List.take_append_drop j ks, List.drop_eq_getElem_cons hj]
  simp only [List.flatten_append, List.flatten_cons, List.length_append]
  omega

set_option maxRecDepth 100000 in
set_option maxHeartbeats 1000000 in
theorem l1Arg_in (b off cap f : Nat) (c : C) (ks : List (List C)) (k : Nat) (t : List C) (ht : t = c :: ks.flatten) (w : World) (hy : trm t = true) (hcap : t.length ≤ cap) (hcm : cap ≤ maxLen) (hA : At w b off t)
    (hl : (ks.length : Int) = ari c) (hk : ∀ k ∈ ks, Tm f k) (hkl : k < ks.length) :
    Calls Try.prog 62 #[.slice (some ⟨b, off, none⟩) t.length cap, .int .i64 k] w fun e w' => ∃ v, e = .returned v ∧ OwnC w' w.heap.size v ks[k] ∧ Below w.heap.size w w' := by
  have hy' := (trm_iff t).1 hy
  have hpos : 0 < t.length := hy'.1
  have h40 := hy'.2.1
  obtain ⟨c0, c1, c2⟩ := hA 0 hpos
  have h0 : t[0] = c := by subst ht; rfl
  rw [h0] at c0 c1 c2
  simp at c0 c1 c2
  have h3 : c.k = 3 := by
    by_cases h : c.k = 3
    · exact h
    · have ha0 : ari c = 0 := by simp [ari, h]
      rw [ha0] at hl; omega
  have hb : (c.k != 3) = false := by simpa using h3
  have han : ari c = c.n := by simp [ari, h3]
  rw [han] at hl
  have hkn : (k : Int) < c.n := by omega
  have hk3 : k < 3 := by have := (ari_ok (hy'.2.2.1 c (by rw [ht]; simp))).2; omega
  have HE : Hid (∀ j, (hj : j < ks.length) → endV t (1 + (ks.take j).flatten.length) = ((1 + (ks.take j).flatten.length + ks[j].length : Nat) : Int)) := fun j hj => by rw [ht]; exact end_at hk hj
  have hlt : t.length = 1 + ks.flatten.length := by rw [ht]; simp only [List.length_cons]; omega
  have HLT := hide hlt
  have HP : Hid (∀ q ∈ ks, 1 ≤ q.length) := fun q hq => (hk q hq).pos
  have HT := hide ht
  have HA := hide hA
  have HY := hide hy'.2.2.1
  have hle : ∀ j, j < ks.length → 1 + (ks.take j).flatten.length ≤ t.length := fun j hj => by have := len_trees ks hj; omega
  have HLE := hide hle
  clear ht h0 hy hy' hlt hA hle hk h3 han
  obtain ⟨i0, hi, hz0, hz1, hz2⟩ := info_parts Try.infoCell
  go_enter Try.func62, Try.ntmps62
  go_wp2_with fail
  go_loop [5, 6] (fun at' i => ∃ j m : Nat, j ≤ k ∧ i = .int .i64 j ∧ at' = .int .i64 m ∧ m = 1 + (ks.take j).flatten.length) (fun _ i => k - (intOf i).toNat)
  case atStart => exact ⟨0, 1, Nat.zero_le _, rfl, rfl, rfl⟩
  case round =>
    obtain ⟨j, m, hj, rfl, rfl, hmm⟩ := hrel
    have hm40 : m ≤ t.length := by rw [hmm]; exact unhide HLE j (by omega)
    have HM := hide hmm
    have he : endV t m = ((m + ks[j].length : Nat) : Int) := by rw [hmm]; exact unhide HE j (by omega)
    obtain ⟨d, hd⟩ : ∃ d, d = ks[j].length := ⟨_, rfl⟩
    rw [← hd] at he
    have HD := hide hd
    have H := hide (l1End_some b off cap m t w h40 hm40 (unhide HA) (unhide HY))
    rw [he] at H
    have HEM := hide he
    clear hmm he hd
    by_cases hjk : j < k
    · go_wp2_with (go_at_call 57; refine (unhide H).mono ?_; rintro e w1 ⟨rfl, rfl⟩)
      refine ⟨⟨j + 1, m + d, by omega, by go_num, by simp, ?_⟩, by simp [intOf]; omega⟩
      rw [List.take_succ_eq_append_getElem (by omega), List.flatten_append, List.length_append, unhide HM, unhide HD]
      simp
      omega
    · have hjk' : j = k := by omega
      subst hjk'
      have hdp : 1 ≤ d := by rw [unhide HD]; exact unhide HP _ (List.getElem_mem hkl)
      have hmd : m + d ≤ t.length := by have := len_trees ks hkl; have := unhide HLT; rw [unhide HD, unhide HM]; omega
      have hcd : ¬ cap = m := by omega
      have hcm' := hcm
      unfold maxLen at hcm'
      have HV : Hid (At w b (off + m * 3) ks[j]) := fun i hi => by
        have hA := unhide HA (m + i) (by have := unhide HD; omega)
        have e : t[m + i]'(by have := unhide HD; omega) = ks[j][i] := by
          have h1 : t.drop m = ks[j] ++ (ks.drop (j + 1)).flatten := by
            rw [unhide HT, unhide HM, drop_trees, List.drop_eq_getElem_cons hkl, List.flatten_cons]
          have h2 : (t.drop m)[i]? = some ks[j][i] := by rw [h1, List.getElem?_append_left hi, List.getElem?_eq_getElem hi]
          rw [List.getElem?_drop, List.getElem?_eq_getElem (by have := unhide HD; omega)] at h2
          exact Option.some.inj h2
        rw [e] at hA
        rw [show off + m * 3 + i * 3 = off + (m + i) * 3 by omega]
        exact hA
      have H2 := hide (l1End_some b off cap m t (w.alloc (.cells #[] 67)) h40 hm40 ((unhide HA).below (cell_below _ _)) (unhide HY))
      rw [unhide HEM] at H2
      have HW : Hid (At (w.alloc (.cells #[] 67)) b (off + m * 3) ks[j]) := (unhide HV).below (cell_below _ _)
      have HA1 := hide (unhide HW).each
      have hfl : (flat ks[j]).length = (m + d - m) * 3 := by rw [flat_length, Nat.add_sub_cancel_left, unhide HD]
      have HFL := hide hfl
      clear hfl
      go_wp2_with (first | (go_at_call 57; refine (unhide H2).mono ?_; rintro e w1 ⟨rfl, rfl⟩) | (at_builtin; refine wpList_append_own _ rfl (.tmp 33) (.tmp 39) 28 rfl w.heap.size 67 i0 _ 3 32 Try.underlying28 hi hz0 hz1 hz2 rfl (by decide) _ _ _ rfl (World.ownsRow_made w #[] 0 (Nat.le_refl _) (by simp [maxLen]) rfl) ⟨b, off + m * 3, none⟩ (m + d - m) (cap - m) (flat ks[j]) rfl (unhide HFL) (unhide HA1) (flat_one ks[j]) ?s3 ?s4 ?s5 ?_))
      case s3 => unfold maxLen; omega
      case s4 => omega
      case s5 => simp
      intro v3 w3 ho3 hG3 _
      have hb3 : Below w.heap.size w w3 := (cell_below w (.cells #[] 67)).grown hG3 (by simp) (fun k e => by simp [Value.ownBlock] at e; omega)
      have HO3 : Hid (OwnC w3 w.heap.size v3 ks[j]) := by
        show OwnC w3 w.heap.size v3 ks[j]
        unfold OwnC
        rw [← unhide HD]
        exact ho3
      clear ho3 hG3
      go_wp2
      go_ret
      exact ⟨_, rfl, unhide HO3, hb3⟩

set_option maxRecDepth 100000 in
set_option maxHeartbeats 1000000 in
theorem l1Arg_out (b off cap : Nat) (c : C) (u : List C) (k : Int) (w : World) (hA : At w b off (c :: u)) (h : c.k ≠ 3 ∨ k < 0 ∨ c.n ≤ k) :
    Calls Try.prog 62 #[.slice (some ⟨b, off, none⟩) (c :: u).length cap, .int .i64 k] w fun e w' => ∃ v, e = .returned v ∧ OwnC w' w.heap.size v [] ∧ Below w.heap.size w w' := by
  obtain ⟨c0, c1, c2⟩ := hA 0 (by simp)
  simp at c0 c1 c2
  simp only [List.length_cons]
  have HB := hide hA
  clear hA
  by_cases h3 : c.k = 3
  · have hb : (c.k != 3) = false := by simpa using h3
    have h' : k < 0 ∨ c.n ≤ k := by rcases h with h | h; exact absurd h3 h; exact h
    have H' := hide h'
    clear h h' h3
    by_cases hk0 : k < 0
    · go_enter Try.func62, Try.ntmps62
      go_wp2
      go_ret
      exact ⟨_, rfl, World.ownsRow_made w #[] 0 (Nat.le_refl _) (by simp [maxLen]) rfl, cell_below _ _⟩
    · have hkn : c.n ≤ k := by rcases unhide H' with h | h; exact absurd h hk0; exact h
      go_enter Try.func62, Try.ntmps62
      go_wp2
      go_ret
      exact ⟨_, rfl, World.ownsRow_made w #[] 0 (Nat.le_refl _) (by simp [maxLen]) rfl, cell_below _ _⟩
  · have hb : (c.k != 3) = true := by simpa using h3
    clear h h3
    go_enter Try.func62, Try.ntmps62
    go_wp2
    go_ret
    exact ⟨_, rfl, World.ownsRow_made w #[] 0 (Nat.le_refl _) (by simp [maxLen]) rfl, cell_below _ _⟩

theorem trm_kids {t : List C} (h : trm t = true) : ∃ f c ks, t = c :: ks.flatten ∧ ((ks : List (List C)).length : Int) = ari c ∧ ∀ k ∈ ks, Tm f k := by
  have := trm_tree h
  obtain ⟨n, hn⟩ : ∃ n, t.length = n + 1 := ⟨t.length - 1, by have := (trm_iff t).1 h; omega⟩
  rw [hn] at this
  obtain ⟨c, ks, e, hl, hk⟩ := this
  exact ⟨n, c, ks, e, hl, hk⟩

theorem l1Arg_any (ao : Option Addr) (cap : Nat) (t : List C) (k : Int) (w : World) (hy : trm t = true) (hcap : t.length ≤ cap) (hcm : cap ≤ maxLen) (hA : Row w ao t) :
    Calls Try.prog 62 #[.slice ao t.length cap, .int .i64 k] w fun e w' => ∃ v, e = .returned v ∧ OwnC w' w.heap.size v (argOf t k) ∧ Below w.heap.size w w' := by
  rcases hA with rfl | ⟨b, off, rfl, hA⟩
  · rw [trm_nil] at hy; cases hy
  obtain ⟨f, c, ks, rfl, hl, hk⟩ := trm_kids hy
  have hoc := ((trm_iff _).1 hy).2.2.1 c (by simp)
  by_cases h0 : k < 0
  · rw [argOf_neg h0]
    exact l1Arg_out b off cap c _ k w hA (.inr (.inl h0))
  · rw [argOf_at hy hl hk (by omega)]
    obtain ⟨j, rfl⟩ := Int.eq_ofNat_of_zero_le (show 0 ≤ k by omega)
    rw [Int.toNat_natCast]
    by_cases hj : j < ks.length
    · rw [List.getElem?_eq_getElem hj]
      exact l1Arg_in b off cap f c ks j _ rfl w hy hcap hcm hA hl hk hj
    · rw [List.getElem?_eq_none (by omega)]
      refine l1Arg_out b off cap c _ _ w hA ?_
      by_cases h3 : c.k = 3
      · have : ari c = c.n := by simp [ari, h3]
        right; right; omega
      · exact .inl h3

end Go.Proofs.Ytonpahhcfgdeoaa

/- Stacks of places, and the ways of one step of making two terms the same. -/
namespace Go.Proofs.Ytonpahhcfgdeoaa
open Go.RowKit
set_option linter.unusedVariables false
set_option linter.unusedSimpArgs false

theorem eql_cellU (c d : C) (w : World) : (binOp .eql 67 (.agg #[.int .i64 c.k, .int .i64 c.n, .string c.s]) (.agg #[.int .i64 d.k, .int .i64 d.n, .string d.s])).run Try.prog w = .ok (.bool (same c d)) w := by
  rw [run_eql_struct, run_equalIn_agg w 9999 67 _ _ Try.fieldsCell Try.heldCell]
  by_cases h1 : c.k = d.k
  · by_cases h2 : c.n = d.n
    · simp [Program.fieldsOf, Try.underlying67, Op.eqFields, go_sem, same, h1, h2, ByteArray.toList_eq]
      by_cases h3 : c.s.data = d.s.data
      · simp [h3]
      · simp [h3]
    · simp [Program.fieldsOf, Try.underlying67, Op.eqFields, go_sem, same, h1, h2]
  · simp [Program.fieldsOf, Try.underlying67, Op.eqFields, go_sem, same, h1]

/-- A slice of slices of places, the last one first. -/
def Stack (w : World) (base : Nat) (lv : Value) (ts : List (List C)) : Prop :=
  ∃ lvs : List Value, w.ownsRow base 28 1 lv ts.length lvs.reverse ∧ lvs.length = ts.length ∧ ∀ i, (h : i < ts.length) → (h' : i < lvs.length) → TdT w lvs[i] ts[i]

theorem Stack.lt {w : World} {base : Nat} {lv : Value} {ts : List (List C)} (h : Stack w base lv ts) : ∀ k, lv.ownBlock = some k → base ≤ k ∧ k < w.heap.size := by
  obtain ⟨lvs, h1, _⟩ := h
  exact fun k e => h1.lt k e

theorem Stack.nilShape {w : World} {base : Nat} {lv : Value} (h : Stack w base lv []) : ∃ la lc, lv = .slice la 0 lc := by
  obtain ⟨lvs, l1, _⟩ := h
  rcases l1.2 with ⟨e, _⟩ | ⟨g, cp, cur, e, _⟩
  · exact ⟨_, _, e⟩
  · exact ⟨_, _, e⟩

theorem Stack.below {w w' : World} {base : Nat} {lv : Value} {ts : List (List C)} (h : Stack w base lv ts) (hb : Below w.heap.size w w') : Stack w' base lv ts := by
  obtain ⟨lvs, h1, h2, h3⟩ := h
  exact ⟨lvs, own_below h1 hb, h2, fun i q q' => (h3 i q q').below hb⟩

/-- Another row has grown. -/
theorem Stack.apart {w w' : World} {base base' e size n : Nat} {lv sv : Value} {xs : List Value} {ts : List (List C)} (h : Stack w base lv ts) (hg : w.grownBy w' sv.ownBlock) (ho : w.ownsRow base' e size sv n xs) (he : e ≠ 67) (hne : lv.ownBlock = none ∨ lv.ownBlock ≠ sv.ownBlock) : Stack w' base lv ts := by
  obtain ⟨lvs, h1, h2, h3⟩ := h
  exact ⟨lvs, h1.kept hg hne, h2, fun i q q' => (h3 i q q').apart hg ho he⟩

/-- One more on top. -/
theorem stack_push {w w1 : World} {base g cap : Nat} {lv u : Value} {lvs : List Value} {ts : List (List C)} {t : List C} (h1 : w.ownsRow base 28 1 lv ts.length lvs.reverse) (h2 : lvs.length = ts.length) (h3 : ∀ i, (h : i < ts.length) → (h' : i < lvs.length) → TdT w lvs[i] ts[i]) (hu : TdT w u t)
    (tmp : Obj) (hown : w1.ownsRow base 28 1 (.slice (some ⟨g, 0, none⟩) (ts.length + 1) cap) (ts.length + 1) (lvs.reverse ++ [u])) (hg : (w.alloc tmp).grownBy w1 lv.ownBlock) : Stack w1 base (.slice (some ⟨g, 0, none⟩) (ts.length + 1) cap) (t :: ts) := by
  have hb : Below w.heap.size w (w.alloc tmp) := cell_below _ _
  refine ⟨u :: lvs, by simpa using hown, by simp [h2], fun i q q' => ?_⟩
  match i with
  | 0 => exact (hu.below hb).apart hg (World.ownsRow.alloc h1 tmp) (by decide)
  | i + 1 => exact ((h3 i (by simp at q; omega) (by simp at q'; omega)).below hb).apart hg (World.ownsRow.alloc h1 tmp) (by decide)

/-- The top of a stack, and what is left below it. -/
theorem Stack.top {w : World} {base : Nat} {lv : Value} {t : List C} {ts : List (List C)} (h : Stack w base lv (t :: ts)) : ∃ g cap u, lv = .slice (some ⟨g, 0, none⟩) (ts.length + 1) cap ∧ ts.length + 1 ≤ cap ∧ cap ≤ maxLen ∧ w.cell? ⟨g, ts.length, none⟩ = some u ∧ TdT w u t ∧ Stack w base (.slice (some ⟨g, 0, none⟩) ts.length cap) ts := by
  obtain ⟨lvs, h1, h2, h3⟩ := h
  rw [List.length_cons] at h1 h2
  cases lvs with
  | nil => simp at h2
  | cons u lvs =>
    have h2' : lvs.length = ts.length := by simpa using h2
    have hu := h3 0 (by simp) (by simp)
    rcases h1.2 with ⟨e, hn⟩ | ⟨g, cap, cur, e, hg, hh, hc, hm, hs, ht⟩
    · omega
    · subst e
      refine ⟨g, cap, u, rfl, hc, hm, ?_, hu, lvs, ⟨by simp [h2'], .inr ⟨g, cap, cur, rfl, hg, hh, by omega, hm, hs, ?_⟩⟩, h2', fun i q q' => h3 (i + 1) (by simp; omega) (by simp; omega)⟩
      · have e0 := h1.cellAt ts.length (by omega)
        rw [e0]
        simp [h2']
      · have h3' : (cur.toList.take ((ts.length + 1) * 1)).take ts.length = cur.toList.take (ts.length * 1) := by rw [List.take_take]; congr 1; omega
        rw [← h3', ht, List.reverse_cons, List.take_append_of_le_length (by simp [h2']), ← h2', ← List.length_reverse, List.take_length]

theorem ownB_apart {w w' : World} {lo hi base n : Nat} {sv lv : Value} {s : List B} {xs : List Value} (h : OwnB w lo hi sv s) (hg : w.grownBy w' lv.ownBlock) (hl : w.ownsRow base 28 1 lv n xs) : OwnB w' lo hi sv s := by
  obtain ⟨us, h1, h2, h3, h4, h5, h6⟩ := h
  exact ⟨us, h1, h2.kept hg (rows_apart h2 hl (by decide)), fun i q q' => (h3 i q q').kept hg (rows_apart (h3 i q q') hl (by decide)), h4, h5, h6⟩

/-- The ways of one step. -/
theorem uni_cases {n n1 n2 : Nat} {s sf : List B} {a b x y : List C} {r : List (List C × List C)} {res : Option (List B)} (hU : Uni n s ((a, b) :: r) res sf) (hx : Now s n1 a x) (hy : Now s n2 b y) :
    (∃ n' c xs ys, n = n' + 1 ∧ x = c :: (xs : List (List C)).flatten ∧ y = c :: (ys : List (List C)).flatten ∧ (∀ k ∈ xs, Trm k) ∧ (∀ k ∈ ys, Trm k) ∧ (xs.length : Int) = ari c ∧ (ys.length : Int) = ari c ∧ Uni n' s (xs.zip ys ++ r) res sf) ∨
    (∃ n' c, n = n' + 1 ∧ x = [c] ∧ c.k = 1 ∧ y.head? ≠ some c ∧ ¬ Reach s y c.n ∧ Uni n' (s ++ [⟨c.n, y⟩]) r res sf) ∨
    (∃ c, x = [c] ∧ c.k = 1 ∧ y.head? ≠ some c ∧ Reach s y c.n ∧ res = none) ∨
    (∃ n' c, n = n' + 1 ∧ y = [c] ∧ c.k = 1 ∧ (∃ d q, x = d :: q ∧ d.k ≠ 1) ∧ ¬ Reach s x c.n ∧ Uni n' (s ++ [⟨c.n, x⟩]) r res sf) ∨
    (∃ c, y = [c] ∧ c.k = 1 ∧ (∃ d q, x = d :: q ∧ d.k ≠ 1) ∧ Reach s x c.n ∧ res = none) ∨
    (∃ c d q q', x = c :: q ∧ y = d :: q' ∧ c.k ≠ 1 ∧ d.k ≠ 1 ∧ c ≠ d ∧ res = none) := by
  cases hU with
  | args k1 k2 h3 h4 h5 h6 h7 =>
    obtain ⟨rfl, _⟩ := k1.det hx
    obtain ⟨rfl, _⟩ := k2.det hy
    exact .inl ⟨_, _, _, _, rfl, rfl, rfl, h3, h4, h5, h6, h7⟩
  | bindL k1 k2 h3 h4 h5 h6 =>
    obtain ⟨rfl, _⟩ := k1.det hx
    obtain ⟨rfl, _⟩ := k2.det hy
    exact .inr (.inl ⟨_, _, rfl, rfl, h3, h4, h5, h6⟩)
  | ringL k1 k2 h3 h4 h5 =>
    obtain ⟨rfl, _⟩ := k1.det hx
    obtain ⟨rfl, _⟩ := k2.det hy
    exact .inr (.inr (.inl ⟨_, rfl, h3, h4, h5, rfl⟩))
  | bindR k1 k2 h3 h4 h5 h6 =>
    obtain ⟨rfl, _⟩ := k1.det hx
    obtain ⟨rfl, _⟩ := k2.det hy
    exact .inr (.inr (.inr (.inl ⟨_, _, rfl, rfl, h3, ⟨_, _, rfl, h4⟩, h5, h6⟩)))
  | ringR k1 k2 h3 h4 h5 =>
    obtain ⟨rfl, _⟩ := k1.det hx
    obtain ⟨rfl, _⟩ := k2.det hy
    exact .inr (.inr (.inr (.inr (.inl ⟨_, rfl, h3, ⟨_, _, rfl, h4⟩, h5, rfl⟩))))
  | apart k1 k2 h3 h4 h5 =>
    obtain ⟨rfl, _⟩ := k1.det hx
    obtain ⟨rfl, _⟩ := k2.det hy
    exact .inr (.inr (.inr (.inr (.inr ⟨_, _, _, _, rfl, rfl, h3, h4, h5, rfl⟩))))

theorem room_tot {sf s : List B} {ps : List (List C × List C)} (h : Room sf s ps) : tot s ≤ 4194304 := by
  have h1 := h.len
  have : ∀ r : List B, (∀ x ∈ r, x.t.length ≤ 40) → tot r ≤ 40 * r.length := by
    intro r
    induction r with
    | nil => intro _; simp [tot]
    | cons x r ih =>
      intro hr
      have q1 := ih (fun y hy => hr y (by simp [hy]))
      have q2 := hr x (by simp)
      simp only [tot, List.length_cons]
      omega
  have := this s h.shortB
  omega

/-- How far l2Unify has come. -/
def UniAt (sf : List B) (res : Option (List B)) (lo : Nat) (w : World) (sv0 : Value) (n : Nat) (sv lv rv : Value) (wr : World) : Prop :=
  ∃ (s : List B) (ps : List (List C × List C)), Uni n s ps res sf ∧ Room sf s ps ∧ OwnB wr lo wr.heap.size sv s ∧ (∀ k, sv.ownBlock = some k → sv0.ownBlock = some k ∨ w.heap.size ≤ k) ∧
    Stack wr w.heap.size lv (ps.map (·.1)) ∧ Stack wr w.heap.size rv (ps.map (·.2)) ∧ (lv.ownBlock = none ∨ lv.ownBlock ≠ rv.ownBlock) ∧ w.grownBy wr sv0.ownBlock

/-- What l2Unify tells. -/
def UnOut (res : Option (List B)) (lo : Nat) (sv0 : Value) (w : World) (e : Ending) (w' : World) : Prop :=
  ∃ u, e = .returned (.tuple #[u, .bool res.isSome]) ∧ (∀ s, res = some s → OwnB w' lo w'.heap.size u s) ∧ w.grownBy w' sv0.ownBlock ∧ (∀ k, u.ownBlock = some k → sv0.ownBlock = some k ∨ w.heap.size ≤ k)

theorem grownBy_then {w wr w' : World} {row : Option Nat} (h : w.grownBy wr row) (hb : Below wr.heap.size wr w') : w.grownBy w' row :=
  ⟨hb.os.trans h.os, hb.tape.trans h.tape, hb.output.trans h.output, Nat.le_trans h.size hb.size, fun k hk hne => (hb.block k (Nat.lt_of_lt_of_le hk h.size)).trans (h.block k hk hne)⟩
theorem grownBy_on {w wr w' : World} {row : Option Nat} {v : Value} (h : w.grownBy wr row) (hg : wr.grownBy w' v.ownBlock) (hv : ∀ k, v.ownBlock = some k → row = some k ∨ w.heap.size ≤ k) : w.grownBy w' row :=
  ⟨hg.os.trans h.os, hg.tape.trans h.tape, hg.output.trans h.output, Nat.le_trans h.size hg.size, fun k hk hne => (hg.block k (Nat.lt_of_lt_of_le hk h.size) (fun e => by
    rcases hv k e.symm with q | q
    · exact hne q.symm
    · omega)).trans (h.block k hk hne)⟩

theorem row_one (w : World) (v : Value) (T base : Nat) (hb : base ≤ w.heap.size) : (w.alloc (.cells #[v] T)).ownsRow base T 1 (.slice (some ⟨w.heap.size, 0, none⟩) 1 1) 1 [v] :=
  ⟨rfl, .inr ⟨w.heap.size, 1, #[v], rfl, hb, World.alloc_heap_new w _, Nat.le_refl _, by simp [maxLen], rfl, rfl⟩⟩

theorem trms_fuel : ∀ (ks : List (List C)), (∀ k ∈ ks, Trm k) → ∃ f, ∀ k ∈ ks, Tm f k
  | [], _ => ⟨0, fun k h => by simp at h⟩
  | a :: ks, h => by
      obtain ⟨f, hf⟩ := trms_fuel ks (fun k hk => h k (by simp [hk]))
      obtain ⟨⟨g, hg⟩, _⟩ := h a (by simp)
      refine ⟨max f g, fun k hk => ?_⟩
      rcases List.mem_cons.1 hk with rfl | hk
      · exact hg.mono (by omega)
      · exact (hf k hk).mono (by omega)

/-- What lies while the arguments of two names are laid onto the stacks. -/
structure PairSt (s : List B) (lo : Nat) (w : World) (sv0 sv xv yv : Value) (x y : List C) (lv rv : Value) (tl tr : List (List C)) (W : World) : Prop where
  own : OwnB W lo W.heap.size sv s
  left : Stack W w.heap.size lv tl
  right : Stack W w.heap.size rv tr
  lr : lv.ownBlock = none ∨ lv.ownBlock ≠ rv.ownBlock
  tx : TdT W xv x
  ty : TdT W yv y
  grown : w.grownBy W sv0.ownBlock

theorem PairSt.swap {s : List B} {lo : Nat} {w W : World} {sv0 sv xv yv lv rv : Value} {x y : List C} {tl tr : List (List C)} (h : PairSt s lo w sv0 sv xv yv x y lv rv tl tr W) : PairSt s lo w sv0 sv xv yv x y rv lv tr tl W :=
  ⟨h.own, h.right, h.left, by
    rcases h.lr with q | q
    · cases e : rv.ownBlock with
      | none => exact .inl rfl
      | some k => right; rw [q]; simp
    · exact .inr (fun e => q e.symm), h.tx, h.ty, h.grown⟩

theorem PairSt.below {s : List B} {lo : Nat} {w W W' : World} {sv0 sv xv yv lv rv : Value} {x y : List C} {tl tr : List (List C)} (h : PairSt s lo w sv0 sv xv yv x y lv rv tl tr W) (hb : Below W.heap.size W W') : PairSt s lo w sv0 sv xv yv x y lv rv tl tr W' :=
  ⟨(h.own.below (Nat.le_refl _) hb).hi_le hb.size, h.left.below hb, h.right.below hb, h.lr, h.tx.below hb, h.ty.below hb, grownBy_then h.grown hb⟩

theorem uniAt_of {s sf : List B} {ps : List (List C × List C)} {res : Option (List B)} {n lo : Nat} {w W : World} {sv0 sv xv yv lv rv : Value} {x y : List C} (hU : Uni n s ps res sf) (hR : Room sf s ps) (hsb : ∀ k, sv.ownBlock = some k → sv0.ownBlock = some k ∨ w.heap.size ≤ k) (h : PairSt s lo w sv0 sv xv yv x y lv rv (ps.map (·.1)) (ps.map (·.2)) W) : UniAt sf res lo w sv0 n sv lv rv W :=
  ⟨s, ps, hU, hR, h.own, hsb, h.left, h.right, h.lr, h.grown⟩

theorem PairSt.push {s : List B} {lo : Nat} {w W W1 : World} {sv0 sv xv yv lv rv u : Value} {x y t : List C} {tl tr : List (List C)} {lvs : List Value} {g cap : Nat} (h : PairSt s lo w sv0 sv xv yv x y lv rv tl tr W)
    (l1 : W.ownsRow w.heap.size 28 1 lv tl.length lvs.reverse) (l2 : lvs.length = tl.length) (l3 : ∀ i, (h : i < tl.length) → (h' : i < lvs.length) → TdT W lvs[i] tl[i]) (hu : TdT W u t) (tmp : Obj)
    (hown : W1.ownsRow w.heap.size 28 1 (.slice (some ⟨g, 0, none⟩) (tl.length + 1) cap) (tl.length + 1) (lvs.reverse ++ [u])) (hg : (W.alloc tmp).grownBy W1 lv.ownBlock) (hat : lv.ownBlock = some g ∨ g = W.heap.size + 1) :
    PairSt s lo w sv0 sv xv yv x y (.slice (some ⟨g, 0, none⟩) (tl.length + 1) cap) rv (t :: tl) tr W1 := by
  have hb : Below W.heap.size W (W.alloc tmp) := cell_below _ _
  have l1' := World.ownsRow.alloc l1 tmp
  have hs := h.swap.lr
  refine ⟨(ownB_apart ((h.own.below (Nat.le_refl _) hb).hi_le hb.size) hg l1').hi_le hg.size, stack_push l1 l2 l3 hu tmp hown hg, (h.right.below hb).apart hg l1' (by decide) hs, ?_, (h.tx.below hb).apart hg l1' (by decide), (h.ty.below hb).apart hg l1' (by decide), grownBy_on (grownBy_then h.grown hb) hg (fun k e => .inr (l1.lt k e).1)⟩
  right
  intro e
  rcases hat with q | q
  · rcases hs with q' | q'
    · rw [q'] at e; simp [Value.ownBlock] at e
    · exact q' (by rw [q, ← e]; rfl)
  · have := (h.right.lt g (by rw [← e]; rfl)).2
    omega
end Go.Proofs.Ytonpahhcfgdeoaa
