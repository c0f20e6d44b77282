import Derived.Test.YtonpahhcfgdeoaaQW2W3W4W6SB2
import Derived.Laws.StructEq
import Derived.Deep.QuietTactic
import Derived.BigQuiet
import Derived.WalkSmall
import Derived.Test.YtonpahhcfgdeoaaQW13SB1
import Derived.Test.YtonpahhcfgdeoaaQT3Plain2T4
import Derived.Test.YtonpahhcfgdeoaaQT1T2
import Derived.OrdersHeld
import Derived.Test.YtonpahhcfgdeoaaQBN1BN2
import Derived.Test.YtonpahhcfgdeoaaQOpenW12PB5
/- The walks of TrmSame, of the model and of the program (slices.Equal). -/
namespace Go.Proofs.Ytonpahhcfgdeoaa
open Go.RowKit
set_option linter.unusedVariables false
set_option linter.unusedSimpArgs false

theorem Try.heldCell : Try.prog.stoodInHeld 67 = false := by kernel_rfl
theorem Try.fieldsCell : Try.prog.underlying 67 = some (.struct (Try.prog.fieldsOf 67)) := by kernel_rfl
theorem Try.guardCell : Try.prog.eqGuardType Try.prog.depth 67 = false := by kernel_rfl

theorem neq_cell (c d : C) (w : World) : (binOp .neq 67 (.agg #[.int .i64 c.k, .int .i64 c.n, .string c.s]) (.agg #[.int .i64 d.k, .int .i64 d.n, .string d.s])).run Try.prog w = .ok (.bool (!same c d)) w := by
  rw [run_neq_struct, run_equalIn_agg w 9999 67 _ _ Try.fieldsCell Try.heldCell]
  by_cases h1 : c.k = d.k
  · by_cases h2 : c.n = d.n
    · simp [Program.fieldsOf, Try.underlying67, Op.eqFields, go_sem, same, h1, h2, ByteArray.toList_eq]
      by_cases h3 : c.s.data = d.s.data
      · simp [h3]
      · simp [h3]
    · simp [Program.fieldsOf, Try.underlying67, Op.eqFields, go_sem, same, h1, h2]
  · simp [Program.fieldsOf, Try.underlying67, Op.eqFields, go_sem, same, h1]

set_option maxHeartbeats 1000000 in
theorem specTrmSame_some (b off cap b' off' cap' : Nat) (t u : List C) (w : World) (hm : t.length ≤ maxLen) (hA : At w b off t) (hU : At w b' off' u) (hl : t.length = u.length) :
    Calls Try.prog 35 #[.slice (some ⟨b, off, none⟩) t.length cap, .slice (some ⟨b', off', none⟩) u.length cap'] w fun e w' => e = .returned (.bool (sameS t u)) ∧ Below w.heap.size w w' := by
  unfold maxLen at hm
  have hne : ((t.length : Int) != (u.length : Int)) = false := by simp; omega
  have hul : u.length ≤ 2 ^ 63 - 1 := by omega
  have HL := hide hl
  clear hl
  go_enter Try.func35, Try.ntmps35
  go_wp2
  go_loopw [5] (fun i wr => ∃ (k : Nat), k ≤ t.length ∧ i = .int .i64 k ∧ t.take k = u.take k ∧ Below w.heap.size w wr) (fun i _ => t.length - (intOf i).toNat)
  case atStart => exact ⟨0, Nat.zero_le _, rfl, rfl, Below.refl _ _⟩
  case round =>
    obtain ⟨k, hk, rfl, hx, hB⟩ := hrel
    have HX := hide hx
    clear hx
    by_cases hlt : k < t.length
    · have hlu : k < u.length := by rw [← unhide HL]; exact hlt
      obtain ⟨c0, c1, c2⟩ := (hA.below hB) k hlt
      obtain ⟨d0, d1, d2⟩ := (hU.below hB) k hlu
      obtain ⟨c, hc⟩ : ∃ c, c = t[k] := ⟨_, rfl⟩
      rw [← hc] at c0 c1 c2
      have HC := hide hc
      clear hc
      obtain ⟨d, hd⟩ : ∃ d, d = u[k] := ⟨_, rfl⟩
      rw [← hd] at d0 d1 d2
      have HD := hide hd
      clear hd
      have hneq := neq_cell c d
      cases hsm : same c d with
      | false =>
        rw [hsm] at hneq
        go_wp2
        go_quiet (fail)
        go_wp2
        go_ret
        refine ⟨ret_bool (sameS_no (fun h => ?_)).symm, ?_⟩
        · have e : c = d := by rw [unhide HC, unhide HD]; simp [h]
          rw [(same_iff c d).2 e] at hsm; cases hsm
        · exact below_drewN hB _
      | true =>
        rw [hsm] at hneq
        go_wp2
        go_quiet (fail)
        go_wp2
        go_roundw
        case rel => exact ⟨k + 1, by omega, by go_num, by rw [List.take_succ_eq_append_getElem hlt, List.take_succ_eq_append_getElem hlu, unhide HX, ← unhide HC, ← unhide HD, (same_iff c d).1 hsm], below_drewN hB _⟩
        case measure => simp [intOf]; omega
    · go_wp2
      go_ret
      refine ⟨ret_bool (sameS_yes ?_).symm, hB⟩
      have := unhide HX
      rw [List.take_of_length_le (by omega), List.take_of_length_le (by rw [← unhide HL]; omega)] at this
      exact this

set_option maxHeartbeats 400000 in
theorem specTrmSame_far (ao bo : Option Addr) (n m cap cap' : Nat) (w : World) (hl : n ≠ m) :
    Calls Try.prog 35 #[.slice ao n cap, .slice bo m cap'] w fun e w' => e = .returned (.bool false) ∧ Below w.heap.size w w' := by
  have hne : ((n : Int) != (m : Int)) = true := by rw [bne_iff_ne]; omega
  go_enter Try.func35, Try.ntmps35
  go_wp2
  go_ret
  exact ⟨rfl, Below.refl _ _⟩

set_option maxHeartbeats 400000 in
theorem specTrmSame_none (ao bo : Option Addr) (cap cap' : Nat) (w : World) :
    Calls Try.prog 35 #[.slice ao 0 cap, .slice bo 0 cap'] w fun e w' => e = .returned (.bool true) ∧ Below w.heap.size w w' := by
  go_enter Try.func35, Try.ntmps35
  go_wp2
  refine wp_loop_rounds 1 ?_
  rw [rounds_succ]
  go_wp2
  go_ret
  exact ⟨rfl, Below.refl _ _⟩

theorem specTrmSame_any (ao bo : Option Addr) (cap cap' : Nat) (t u : List C) (w : World) (hm : t.length ≤ maxLen) (hA : Row w ao t) (hU : Row w bo u) :
    Calls Try.prog 35 #[.slice ao t.length cap, .slice bo u.length cap'] w fun e w' => e = .returned (.bool (sameS t u)) ∧ Below w.heap.size w w' := by
  by_cases hl : t.length = u.length
  · rcases hA with rfl | ⟨b, off, rfl, hA⟩
    · have hu : u = [] := List.length_eq_zero_iff.1 hl.symm
      subst hu
      exact specTrmSame_none ao bo cap cap' w
    · rcases hU with rfl | ⟨b', off', rfl, hU⟩
      · have ht : t = [] := List.length_eq_zero_iff.1 hl
        subst ht
        exact specTrmSame_none _ bo cap cap' w
      · exact specTrmSame_some b off cap b' off' cap' t u w hm hA hU hl
  · rw [sameS_no (fun h => hl (by rw [h]))]
    exact specTrmSame_far ao bo _ _ cap cap' w hl

set_option maxHeartbeats 1000000 in
theorem slicesEqual_some (b off cap b' off' cap' : Nat) (t u : List C) (w : World) (hm : t.length ≤ maxLen) (hA : At w b off t) (hU : At w b' off' u) (hl : t.length = u.length) :
    Calls Try.prog 94 #[.slice (some ⟨b, off, none⟩) t.length cap, .slice (some ⟨b', off', none⟩) u.length cap'] w fun e w' => e = .returned (.bool (sameS t u)) ∧ Below w.heap.size w w' := by
  unfold maxLen at hm
  have hne : ((t.length : Int) != (u.length : Int)) = false := by simp; omega
  have hul : u.length ≤ 2 ^ 63 - 1 := by omega
  have HL := hide hl
  clear hl
  go_enter Try.func94, Try.ntmps94
  go_wp2
  go_loopw [5, 13] (fun _ i wr => ∃ (k : Nat), k ≤ t.length ∧ i = .int .i64 k ∧ t.take k = u.take k ∧ Below w.heap.size w wr) (fun _ i _ => t.length - (intOf i).toNat)
  case atStart => exact ⟨0, Nat.zero_le _, rfl, rfl, Below.refl _ _⟩
  case round =>
    obtain ⟨k, hk, rfl, hx, hB⟩ := hrel
    have HX := hide hx
    clear hx
    by_cases hlt : k < t.length
    · have hlu : k < u.length := by rw [← unhide HL]; exact hlt
      obtain ⟨c0, c1, c2⟩ := (hA.below hB) k hlt
      obtain ⟨d0, d1, d2⟩ := (hU.below hB) k hlu
      obtain ⟨c, hc⟩ : ∃ c, c = t[k] := ⟨_, rfl⟩
      rw [← hc] at c0 c1 c2
      have HC := hide hc
      clear hc
      obtain ⟨d, hd⟩ : ∃ d, d = u[k] := ⟨_, rfl⟩
      rw [← hd] at d0 d1 d2
      have HD := hide hd
      clear hd
      have hneq := neq_cell c d
      cases hsm : same c d with
      | false =>
        rw [hsm] at hneq
        go_wp2
        go_quiet (fail)
        go_wp2
        go_ret
        refine ⟨ret_bool (sameS_no (fun h => ?_)).symm, ?_⟩
        · have e : c = d := by rw [unhide HC, unhide HD]; simp [h]
          rw [(same_iff c d).2 e] at hsm; cases hsm
        · exact below_drewN hB _
      | true =>
        rw [hsm] at hneq
        go_wp2
        go_quiet (fail)
        go_wp2
        go_roundw
        case rel => exact ⟨k + 1, by omega, by go_num, by rw [List.take_succ_eq_append_getElem hlt, List.take_succ_eq_append_getElem hlu, unhide HX, ← unhide HC, ← unhide HD, (same_iff c d).1 hsm], below_drewN hB _⟩
        case measure => simp [intOf]; omega
    · go_wp2
      go_ret
      refine ⟨ret_bool (sameS_yes ?_).symm, hB⟩
      have := unhide HX
      rw [List.take_of_length_le (by omega), List.take_of_length_le (by rw [← unhide HL]; omega)] at this
      exact this

set_option maxHeartbeats 400000 in
theorem slicesEqual_far (ao bo : Option Addr) (n m cap cap' : Nat) (w : World) (hl : n ≠ m) :
    Calls Try.prog 94 #[.slice ao n cap, .slice bo m cap'] w fun e w' => e = .returned (.bool false) ∧ Below w.heap.size w w' := by
  have hne : ((n : Int) != (m : Int)) = true := by rw [bne_iff_ne]; omega
  go_enter Try.func94, Try.ntmps94
  go_wp2
  go_ret
  exact ⟨rfl, Below.refl _ _⟩

set_option maxHeartbeats 400000 in
theorem slicesEqual_none (ao bo : Option Addr) (cap cap' : Nat) (w : World) :
    Calls Try.prog 94 #[.slice ao 0 cap, .slice bo 0 cap'] w fun e w' => e = .returned (.bool true) ∧ Below w.heap.size w w' := by
  go_enter Try.func94, Try.ntmps94
  go_wp2
  refine wp_loop_rounds 1 ?_
  rw [rounds_succ]
  go_wp2
  go_ret
  exact ⟨rfl, Below.refl _ _⟩

theorem slicesEqual_any (ao bo : Option Addr) (cap cap' : Nat) (t u : List C) (w : World) (hm : t.length ≤ maxLen) (hA : Row w ao t) (hU : Row w bo u) :
    Calls Try.prog 94 #[.slice ao t.length cap, .slice bo u.length cap'] w fun e w' => e = .returned (.bool (sameS t u)) ∧ Below w.heap.size w w' := by
  by_cases hl : t.length = u.length
  · rcases hA with rfl | ⟨b, off, rfl, hA⟩
    · have hu : u = [] := List.length_eq_zero_iff.1 hl.symm
      subst hu
      exact slicesEqual_none ao bo cap cap' w
    · rcases hU with rfl | ⟨b', off', rfl, hU⟩
      · have ht : t = [] := List.length_eq_zero_iff.1 hl
        subst ht
        exact slicesEqual_none _ bo cap cap' w
      · exact slicesEqual_some b off cap b' off' cap' t u w hm hA hU hl
  · rw [sameS_no (fun h => hl (by rw [h]))]
    exact slicesEqual_far ao bo _ _ cap cap' w hl

set_option maxHeartbeats 400000 in
theorem TrmSame_any (ao bo : Option Addr) (cap cap' : Nat) (t u : List C) (w : World) (hm : t.length ≤ maxLen) (hA : Row w ao t) (hU : Row w bo u) :
    Calls Try.prog 64 #[.slice ao t.length cap, .slice bo u.length cap'] w fun e w' => e = .returned (.bool (sameS t u)) ∧ Below w.heap.size w w' := by
  go_enter Try.func64, Try.ntmps64
  go_wp2_with fail
  refine (slicesEqual_any ao bo cap cap' t u _ hm hA hU).mono ?_
  rintro e w1 ⟨rfl, hb1⟩
  go_wp2
  go_ret
  exact ⟨rfl, hb1⟩
end Go.Proofs.Ytonpahhcfgdeoaa

/- The walk of caTerm; treeOf and TrmShift where places are no term. -/
namespace Go.Proofs.Ytonpahhcfgdeoaa
open Go.RowKit
set_option linter.unusedVariables false
set_option linter.unusedSimpArgs false

set_option maxHeartbeats 400000 in
theorem treeOf_no (ao : Option Addr) (cap : Nat) (t : List C) (w : World) (hm : t.length ≤ maxLen) (hA : Row w ao t) (hF : Fit t) (hn : trm t = false) :
    Calls Try.prog 63 #[.slice ao t.length cap] w fun e w' => e = .returned (.pointer none) ∧ Below w.heap.size w w' := by
  have H := hide (TrmOk_any ao cap t w hm hA hF)
  rw [hn] at H
  go_enter Try.func63, Try.ntmps63
  go_wp2_with fail
  refine (unhide H).mono ?_
  rintro e w1 ⟨rfl, hb1⟩
  go_wp2
  go_ret
  exact ⟨rfl, hb1⟩

end Go.Proofs.Ytonpahhcfgdeoaa

/- Trees as shapes with what they hold; the walk of TrmArg. -/
namespace Go.Proofs.Ytonpahhcfgdeoaa
open Go.RowKit Go.Shelf
set_option linter.unusedVariables false
set_option linter.unusedSimpArgs false

theorem Tre.tm {S : Nat → Prop} {W : World} : ∀ {f p : Nat} {z : List (Nat × C)}, Tre S W f p z → Tm f (z.map (·.2))
  | f + 1, p, z, ⟨c, ks, ao, cap, e, hp, hl, hn, hr, hs⟩ => by
      refine ⟨c, ks.map (fun k => k.2.map (·.2)), ?_, by simpa using hl.2, fun k hk => ?_⟩
      · rw [e, List.map_cons, List.map_flatten, List.map_map]; rfl
      · obtain ⟨q, hq, rfl⟩ := List.mem_map.1 hk
        exact (hs q hq).tm

theorem Tre.shp {S : Nat → Prop} {n₀ : Nat} {W : World} (hS : ∀ b, S b → b < n₀) : ∀ {f p : Nat} {z : List (Nat × C)}, Tre S W f p z → Shp n₀ W f p (z.map (·.1))
  | f + 1, p, z, ⟨c, ks, ao, cap, e, hp, hl, hn, hr, hs⟩ => by
      refine ⟨ks.map (fun k => (k.1, k.2.map (·.1))), ao, cap, ?_, hS p hp, by rw [List.length_map]; unfold maxLen; omega, by rw [List.length_map]; exact hn.cell, ?_, ?_⟩
      · rw [e, List.map_cons, List.map_flatten, List.map_map, List.map_map]; rfl
      · rcases hr with rfl | ⟨q, e, hq, h⟩
        · exact .inl rfl
        · refine .inr ⟨q, e, hS q hq, fun i hi => ?_⟩
          rw [List.length_map] at hi
          rw [h i hi, List.getElem_map]
      · intro k hk
        obtain ⟨q, hq, rfl⟩ := List.mem_map.1 hk
        exact (hs q hq).shp hS

theorem Tre.held {S : Nat → Prop} {n₀ : Nat} {W : World} (hS : ∀ b, S b → b < n₀) : ∀ {f p : Nat} {z : List (Nat × C)}, Tre S W f p z → ∀ x ∈ z, Held n₀ W x
  | f + 1, p, z, ⟨c, ks, ao, cap, e, hp, hl, hn, hr, hs⟩, x, hx => by
      rw [e] at hx
      rcases List.mem_cons.1 hx with rfl | hx
      · exact ⟨hS p hp, hn.cells.1, hn.cells.2.1, hn.cells.2.2⟩
      · obtain ⟨l, hl, hx⟩ := List.mem_flatten.1 hx
        obtain ⟨k, hk, rfl⟩ := List.mem_map.1 hl
        exact (hs k hk).held hS x hx

/-- The first m terms of places. -/
def split : Nat → List C → List (List C)
  | 0, _ => []
  | m + 1, t => match ends 1 t with
    | some j => t.take j :: split m (t.drop j)
    | none => []

theorem split_trees {f : Nat} (r : List C) : ∀ (ks : List (List C)), (∀ k ∈ ks, Tm f k) → split ks.length (ks.flatten ++ r) = ks
  | [], _ => rfl
  | k :: ks, h => by
      have e := ends_of_tree f k (h k (by simp)) 0 (ks.flatten ++ r)
      have z : ∀ r, ends (0 : Nat) r = some 0 := fun r => by cases r <;> simp [ends]
      rw [z] at e
      simp at e
      rw [List.flatten_cons, List.append_assoc, List.length_cons]
      simp only [split, e]
      rw [List.take_left, List.drop_left, split_trees r ks (fun q hq => h q (by simp [hq]))]

/-- The k-th argument of places that are a term. -/
def argOf (t : List C) (k : Int) : List C := if trm t = true ∧ 0 ≤ k then ((split (ari (t.headD ⟨0, 0, ByteArray.empty⟩)).toNat t.tail)[k.toNat]?).getD [] else []

theorem argOf_no {t : List C} {k : Int} (h : trm t = false) : argOf t k = [] := by simp [argOf, h]
theorem argOf_neg {t : List C} {k : Int} (h : k < 0) : argOf t k = [] := by
  unfold argOf; rw [if_neg (fun h' => by omega)]
theorem argOf_at {f : Nat} {c : C} {ks : List (List C)} (ht : trm (c :: ks.flatten) = true) (hl : (ks.length : Int) = ari c) (hk : ∀ k ∈ ks, Tm f k) {i : Int} (hi : 0 ≤ i) : argOf (c :: ks.flatten) i = (ks[i.toNat]?).getD [] := by
  unfold argOf
  rw [if_pos ⟨ht, hi⟩]
  have := split_trees [] ks hk
  rw [List.append_nil] at this
  simp only [List.headD_cons, List.tail_cons]
  rw [← hl, Int.toNat_natCast, this]

theorem arg_trm {f : Nat} {c : C} {ks : List (List C)} (ht : trm (c :: ks.flatten) = true) (hk : ∀ k ∈ ks, Tm f k) {k : List C} (h : k ∈ ks) : trm k = true := by
  have h0 := (trm_iff _).1 ht
  have hsub : ∀ q ∈ k, q ∈ c :: ks.flatten := fun q hq => List.mem_cons_of_mem _ (List.mem_flatten.2 ⟨k, h, hq⟩)
  have hlen : k.length ≤ ks.flatten.length := by
    have := (List.sublist_flatten_of_mem h).length_le
    exact this
  refine tree_trm (hk k h) ?_ (fun q hq => h0.2.2.1 q (hsub q hq))
  have := h0.2.1
  simp only [List.length_cons] at this
  omega

theorem argOf_len (t : List C) (k : Int) : (argOf t k).length ≤ 40 := by
  by_cases h : trm t = true
  · by_cases hk : 0 ≤ k
    · obtain ⟨f, c, ks, e, hl, hks⟩ : ∃ f c ks, t = c :: ks.flatten ∧ ((ks : List (List C)).length : Int) = ari c ∧ ∀ k ∈ ks, Tm f k := by
        have := trm_tree h
        obtain ⟨n, hn⟩ : ∃ n, t.length = n + 1 := ⟨t.length - 1, by have := (trm_iff t).1 h; omega⟩
        rw [hn] at this
        obtain ⟨c, ks, e, hl, hk⟩ := this
        exact ⟨n, c, ks, e, hl, hk⟩
      subst e
      rw [argOf_at h hl hks hk]
      rcases hq : ks[k.toNat]? with _ | q
      · simp
      · have := arg_trm h hks (List.mem_of_getElem? hq)
        exact ((trm_iff q).1 this).2.1
    · rw [argOf_neg (by omega)]; simp
  · rw [argOf_no (by simpa using h)]; simp

end Go.Proofs.Ytonpahhcfgdeoaa

/- A region that draws, inside a round of a range over a function: walked as outside of one, if nothing in it is deferred. -/
namespace Go.Proofs.Ytonpahhcfgdeoaa
open Go.RowKit
set_option linter.unusedVariables false
set_option linter.unusedSimpArgs false

/-- What is asked behind a region that neither panics nor outgrows. -/
def Quiet (Q : Exit → Act → World → Prop) : Exit → Act → World → Prop := fun e a w => e = .normal ∧ Q .normal a w
theorem quiet_out {Q : Exit → Act → World → Prop} (h : LetsOut (Quiet Q)) : False := by
  obtain ⟨a, w, h, _⟩ := h
  cases h

theorem quiet_panic {Q : Exit → Act → World → Prop} {c : List PanicEntry} {a a' : Act} {w w' : World} (h : Quiet Q (.panic c) a w) : Quiet Q (.panic c) a' w' := by cases h.1

theorem upon_in {l n : Nat} {P : Program} {o : Oper} {a : Act} {K K' : Act → World → Prop} {Q : Exit → Act → World → Prop} (hK : ∀ a w, K a w → K' a w) (r : Result Next) (h : o.upon P a K (Quiet Q) r) : o.uponIn (Fence.wide.inRound l) n P a K' Q r := by
  cases r with
  | ok nx w' =>
    cases nx with
    | value v => exact hK _ _ h
    | skip => exact hK _ _ h
    | defer d => exact hK _ _ h
    | enter f args =>
      refine And.intro (fun hd => absurd hd (by simp [Fence.wide])) ?_
      refine CallsIn.inRound l ?_
      refine callsIn_wide.2 ?_
      refine Calls.mono h ?_
      intro e w'' he
      cases e with
      | returned v => exact hK _ _ he
      | panicked c => cases he.1
      | outgrown => exact (quiet_out he).elim
    | row row args =>
      refine And.intro (fun hd => absurd hd (by simp [Fence.wide])) ?_
      intro c cs _
      have hr : Rows P row args w' (fun v w'' => K (a.put o.dst v) w'') := h
      have hx := hr c cs
      rcases hx with ⟨v, w'', r, s⟩
      exact ⟨v, w'', hK _ _ r, stepsIn_wide.2 s⟩
    | _ => exact h.elim
  | halt x w' =>
    cases x with
    | panic v => cases h.1
    | _ => exact h.elim

theorem any_in {l n : Nat} {P : Program} {md : Region.Mode} {ops : Array Oper} {Q : Exit → Act → World → Prop} (hd : ∀ o ∈ ops, ∀ c, o.op ≠ .defer c) : ∀ (fuel : Nat) (listed : Array Bool) (a : Act) (w : World), wpAny P md ops (Quiet Q) fuel listed a w → wpAnyIn (Fence.wide.inRound l) n P md ops Q fuel listed a w
  | 0, listed, a, w, h => ⟨h.1, h.2.2⟩
  | fuel + 1, listed, a, w, h => ⟨fun h0 => (h.1 h0).2, fun i hi => by
      have h2 := h.2 i hi
      unfold wpOp at h2
      unfold wpOpIn
      cases ho : ops[i]? with
      | none => rw [ho] at h2; exact any_in hd fuel _ _ _ h2
      | some o =>
        rw [ho] at h2
        have hnd := hd o (Array.mem_of_getElem? ho)
        simp only at h2 ⊢
        split
        · rename_i hw
          rw [if_pos hw] at h2
          refine ⟨fun _ _ => trivial, ?_⟩
          rw [show (Fence.wide.inRound l).round = some l from rfl, Oper.semAt_some l _ _ hnd]
          rcases h2 with h2 | ⟨_, h2⟩
          · exact upon_in (fun a w h => any_in hd fuel _ a w h) _ h2
          · exact (quiet_out h2).elim
        · rename_i hw
          rw [if_neg hw] at h2
          exact ⟨fun _ _ => trivial, any_in hd fuel _ _ _ h2⟩⟩

/-- The beginning: a region in a round, under a condition on the world that the prover names. -/
theorem region_in {l n id : Nat} {P : Program} {ops : Array Oper} {Q : Exit → Act → World → Prop} {a : Act} {w : World} (S : World → Prop) (hm : P.follows .mixedOrders = true) (hd : ∀ o ∈ ops, ∀ c, o.op ≠ .defer c)
    (h : wpAnyH P .any ops (Quiet Q) S ops.size (Array.replicate ops.size false) a w.drew) : (Code.region id ops true).wpIn (Fence.wide.inRound l) n P Q a w :=
  wpIn_region_any hm (any_in hd _ _ _ _ (wpAny_of_held _ _ _ _ h))
end Go.Proofs.Ytonpahhcfgdeoaa

/- The walk of get. -/
namespace Go.Proofs.Ytonpahhcfgdeoaa
open Go.RowKit Go.Maps
set_option linter.unusedVariables false
set_option linter.unusedSimpArgs false

/-- What get tells. -/
def GetOut (S : Nat → Prop) (w : World) (s : List B) (x : Int) (e : Ending) : Prop := (getB s x = [] ∧ e = .returned (.pointer none)) ∨ (getB s x ≠ [] ∧ ∃ p, e = .returned (.pointer (some ⟨p, 0, none⟩)) ∧ TreeAt S w p (getB s x))

set_option maxRecDepth 100000 in
set_option maxHeartbeats 2000000 in
theorem get_any (lo P : Nat) (S : Nat → Prop) (s : List B) (x : Int) (w : World) (hs : s.length ≤ 4194304) (hB : Bnd lo w P S s) (hx : (Lit.int .i64 x).wf = true) :
    Calls Try.prog 96 #[.pointer (some ⟨P, 0, none⟩), .int .i64 x] w fun e w' => w' = w ∧ GetOut S w s x e := by
  obtain ⟨ov, M, n, D, rs, h1, h2, h3, h4, h5, h6, h7, h9, h10⟩ := hB
  obtain ⟨c0, c1, f0⟩ := h1.cells
  have hPl := h1.lt
  obtain ⟨k, hat0, hc⟩ := bound_at h7 h4.2 h9 x
  have hl4 := h4.2
  obtain ⟨ao, cap, rfl, hrow⟩ := h4.shape
  clear h7 h9 h10 h6 h4 h2 h3
  cases hh : Maps.has D (.int .i64 x) with
  | false =>
    have HN : Hid (getB s x = []) := by
      rcases hc with h | ⟨_, h, _⟩
      · exact h.1
      · rw [hh] at h; cases h
    clear hc hrow
    go_enter Try.func96, Try.ntmps96
    go_wp2_with (at_lookup; refine wpList_lookup_own_ok_int _ rfl _ _ 127 rfl 3 3 .i64 (int_keyed Try.underlying3) Try.underlying127 Try.underlying3 (zeroInt _) M n D rfl h5 _ _ rfl (keyOf_int_mk Try.underlying3 hx) ?_; intro cc hat hwc; rw [hat0] at hat; simp only [DataW.lit.injEq, Lit.int.injEq, true_and] at hat; subst hat; rw [hh])
    go_ret
    exact ⟨rfl, .inl ⟨unhide HN, rfl⟩⟩
  | true =>
    by_cases hk : k < s.length
    · have hkb : decide ((k : Int) ≥ (s.length : Int)) = false := by simp; omega
      obtain ⟨g, rfl, hcl⟩ : ∃ g, ao = some ⟨g, 0, none⟩ ∧ ∀ i, (h : i < s.length) → (h' : i < rs.length) → w.cell? ⟨g, i * 2, none⟩ = some (.int .i64 s[i].v) ∧ w.cell? ⟨g, i * 2 + 1, none⟩ = some (.pointer (some ⟨rs[i], 0, none⟩)) := by
        rcases hrow with h | h
        · rw [h] at hk; simp at hk
        · exact h
      obtain ⟨q0, q1⟩ := hcl k hk (by omega)
      by_cases hv : s[k].v = x
      · have hvb : (s[k].v != x) = false := by simpa using hv
        have HT : Hid (getB s x ≠ [] ∧ TreeAt S w rs[k] (getB s x)) := by
          rcases hc with h | ⟨a, _, h, h', _, b⟩
          · exact absurd hv (h.2 hh hk)
          · exact ⟨a, b⟩
        generalize s[k].v = yv at q0 hvb
        generalize rs[k] = r at q1 HT
        clear hc hrow hcl hv
        go_enter Try.func96, Try.ntmps96
        go_wp2_with (at_lookup; refine wpList_lookup_own_ok_int _ rfl _ _ 127 rfl 3 3 .i64 (int_keyed Try.underlying3) Try.underlying127 Try.underlying3 (zeroInt _) M n D rfl h5 _ _ rfl (keyOf_int_mk Try.underlying3 hx) ?_; intro cc hat hwc; rw [hat0] at hat; simp only [DataW.lit.injEq, Lit.int.injEq, true_and] at hat; subst hat; rw [hh])
        go_ret
        exact ⟨rfl, .inr ⟨(unhide HT).1, _, rfl, (unhide HT).2⟩⟩
      · have hvb : (s[k].v != x) = true := by simpa using hv
        have HN : Hid (getB s x = []) := by
          rcases hc with h | ⟨_, _, _, _, h, _⟩
          · exact h.1
          · exact absurd h hv
        generalize s[k].v = yv at q0 hvb
        clear hc hrow hcl hv
        go_enter Try.func96, Try.ntmps96
        go_wp2_with (at_lookup; refine wpList_lookup_own_ok_int _ rfl _ _ 127 rfl 3 3 .i64 (int_keyed Try.underlying3) Try.underlying127 Try.underlying3 (zeroInt _) M n D rfl h5 _ _ rfl (keyOf_int_mk Try.underlying3 hx) ?_; intro cc hat hwc; rw [hat0] at hat; simp only [DataW.lit.injEq, Lit.int.injEq, true_and] at hat; subst hat; rw [hh])
        go_ret
        exact ⟨rfl, .inl ⟨unhide HN, rfl⟩⟩
    · have hkb : decide ((k : Int) ≥ (s.length : Int)) = true := by simp; omega
      have HN : Hid (getB s x = []) := by
        rcases hc with h | ⟨_, _, h, _⟩
        · exact h.1
        · exact absurd h hk
      clear hc hrow
      go_enter Try.func96, Try.ntmps96
      go_wp2_with (at_lookup; refine wpList_lookup_own_ok_int _ rfl _ _ 127 rfl 3 3 .i64 (int_keyed Try.underlying3) Try.underlying127 Try.underlying3 (zeroInt _) M n D rfl h5 _ _ rfl (keyOf_int_mk Try.underlying3 hx) ?_; intro cc hat hwc; rw [hat0] at hat; simp only [DataW.lit.injEq, Lit.int.injEq, true_and] at hat; subst hat; rw [hh])
      go_ret
      exact ⟨rfl, .inl ⟨unhide HN, rfl⟩⟩
end Go.Proofs.Ytonpahhcfgdeoaa
