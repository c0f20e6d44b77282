/- The specification's l4Top and OutOk. -/
import Derived.Test.YtonpahhcfgdeoaaQOK2SH2T8
import Derived.Test.YtonpahhcfgdeoaaQU5
namespace Go.Proofs.Ytonpahhcfgdeoaa
open Go.RowKit Go.Shelf
set_option linter.unusedVariables false
set_option linter.unusedSimpArgs false

set_option maxRecDepth 100000 in
set_option maxHeartbeats 1000000 in
theorem l4Top_any (ao : Option Addr) (cap : Nat) (t : List C) (w : World) (hT : OutM w ao cap t) :
    Calls Try.prog 32 #[.slice ao t.length cap] w fun e w' => e = .returned (.bool (isQ t)) ∧ Below w.heap.size w w' := by
  have hm : t.length ≤ maxLen := Nat.le_trans hT.cap1 hT.cap2
  have H1 := hide (specTrmOk_any ao cap t w hm hT.row hT.fit)
  have H2 := hide (fun (W : World) (hW : Below w.heap.size w W) => l3Call_any ao cap t W hm (hT.below hW).row)
  have H3 := hide (fun (W : World) (hW : Below w.heap.size w W) => specTrmCanon_any ao cap t W hT.len (hT.below hW).row)
  have H4 := hide (fun (W0 W : World) (hW : Below w.heap.size w W) (xa : Option Addr) (xc : Nat) (ho : OwnC W W0.heap.size (.slice xa (canonOf t).length xc) (canonOf t)) => specTrmSame_any xa ao xc cap (canonOf t) t W (by rw [canonOf_length]; exact hm) ho.row (hT.below hW).row)
  clear hT
  have HQ : Hid (isQ t = (trm t && callT t && sameS (canonOf t) t)) := rfl
  obtain ⟨a, ha⟩ : ∃ a, a = trm t := ⟨_, rfl⟩
  obtain ⟨b, hb⟩ : ∃ b, b = callT t := ⟨_, rfl⟩
  obtain ⟨c, hc⟩ : ∃ c, c = sameS (canonOf t) t := ⟨_, rfl⟩
  rw [← ha] at H1
  rw [← ha, ← hb, ← hc] at HQ
  rw [← hb] at H2
  rw [← hc] at H4
  clear ha hb hc hm
  cases a with
  | false =>
    go_enter Try.func32, Try.ntmps32
    go_wp2_with (go_at_call 34; refine (unhide H1).mono ?_; rintro e w1 ⟨rfl, hb1⟩)
    go_ret
    exact ⟨by rw [unhide HQ]; rfl, hb1⟩
  | true =>
    cases b with
    | false =>
      go_enter Try.func32, Try.ntmps32
      go_wp2_with (first
        | (go_at_call 34; refine (unhide H1).mono ?_; rintro e w1 ⟨rfl, hb1⟩)
        | (go_at_call 55; refine (unhide H2 w1 hb1).mono ?_; rintro e w2 ⟨rfl, rfl⟩))
      go_ret
      exact ⟨by rw [unhide HQ]; rfl, hb1⟩
    | true =>
      go_enter Try.func32, Try.ntmps32
      go_wp2_with (first
        | (go_at_call 34; refine (unhide H1).mono ?_; rintro e w1 ⟨rfl, hb1⟩)
        | (go_at_call 55; refine (unhide H2 w1 hb1).mono ?_; rintro e w2 ⟨rfl, rfl⟩)
        | (go_at_call 36; refine (unhide H3 w2 hb1).mono ?_; rintro e w3 ⟨v, rfl, ho, hb3⟩; obtain ⟨xa, xc, rfl, _⟩ := ho.shape)
        | (go_at_call 35; refine (unhide H4 w2 w3 (bstep hb1 hb3) xa xc ho).mono ?_; rintro e w4 ⟨rfl, hb4⟩))
      go_ret
      exact ⟨by rw [unhide HQ]; simp, bstep (bstep hb1 hb3) hb4⟩

/-- The model's way to make two terms the same, with nothing bound, out of a list of its own. -/
theorem l2Unify_nil (g lo n : Nat) (av bv : Value) (a b : List C) (res : Option (List B)) (sf : List B) (w : World) (hg : lo ≤ g) (hgw : g ≤ w.heap.size) (hO : OwnB w g w.heap.size (.slice (some ⟨g, 0, none⟩) 0 0) []) (hA : TdT w av a) (hB : TdT w bv b) (ta : trm a = true) (tb : trm b = true) (hU : Uni n [] [(a, b)] res sf) :
    Calls Try.prog 37 #[.slice (some ⟨g, 0, none⟩) 0 0, av, bv] w fun e w' => (∃ u, e = .returned (.tuple #[u, .bool res.isSome])) ∧ Below lo w w' := by
  refine (l2Unify_any (some ⟨g, 0, none⟩) 0 g [] sf av bv a b n res w hgw hO hA hB hU (Room.begin hU okB_nil (fun x h => by simp at h) (fun x h => by simp at h) (trm_Trm ta) (trm_Trm tb) (trm_len ta).2 (trm_len tb).2)).mono ?_
  rintro e w' ⟨u, rfl, _, hgr, _⟩
  refine ⟨⟨u, rfl⟩, (Below.refl _ _).grown hgr (Nat.le_trans hg hgw) (fun k e => ?_)⟩
  have : g = k := by simpa [Value.ownBlock] using e
  omega
theorem ownB_lit0 (w : World) : OwnB (w.alloc (.cells #[] 124)) w.heap.size (w.alloc (.cells #[] 124)).heap.size (.slice (some ⟨w.heap.size, 0, none⟩) 0 0) [] :=
  ⟨[], rfl, by simpa [flatB] using World.ownsRow_made w #[] 0 (Nat.le_refl _) (by simp [maxLen]) rfl, fun i h => by simp at h, by simp, by simp, fun k e => by simp [Value.ownBlock] at e; subst e; simp⟩
theorem OwnB.hi {w : World} {lo hi hi' : Nat} {v : Value} {s : List B} (h : OwnB w lo hi v s) (hh : hi ≤ hi') : OwnB w lo hi' v s := by
  obtain ⟨us, h1, h2, h3, h4, h5, h6⟩ := h
  exact ⟨us, h1, h2, h3, h4, fun u hu k e => Nat.lt_of_lt_of_le (h5 u hu k e) hh, fun k e => Nat.lt_of_lt_of_le (h6 k e) hh⟩
theorem ownB_keep {w w' : World} {lo : Nat} {v : Value} {s : List B} (h : OwnB w lo w.heap.size v s) (hb : Below w.heap.size w w') : OwnB w' lo w'.heap.size v s := (h.below (Nat.le_refl _) hb).hi hb.size
theorem l1Shift_row (ao : Option Addr) (cap : Nat) (t : List C) (n : Nat) (w : World) (hm : t.length ≤ 1048576) (hA : Row w ao t) (ht : trm t = true) (hn : n ≤ 99999) :
    Calls Try.prog 38 #[.slice ao t.length cap, .int .i64 n] w fun e w' => ∃ v, e = .returned v ∧ OwnC w' w.heap.size v (t.map (shiftC n)) ∧ Below w.heap.size w w' := by
  rcases hA with rfl | ⟨b, off, rfl, hA⟩
  · have := trm_len ht; simp at this
  · exact l1Shift_some b off cap t n w hm hA ((trm_iff t).1 ht).2.2.1 (by omega) (by omega)

set_option maxRecDepth 100000 in
set_option maxHeartbeats 4000000 in
theorem specOutOk_any (k : Int) (ao uo : Option Addr) (cap ucap : Nat) (t u : List C) (r : Bool) (w : World) (hT : OutM w ao cap t) (hU : OutM w uo ucap u) (hTd : trm u = true → TdT w (.slice uo u.length ucap) u) (hr : CanB t u r) :
    Calls Try.prog 9 #[.slice ao t.length cap, .agg #[.int .i64 k, .slice uo u.length ucap]] w fun e w' => e = .returned (.bool (outB k t u r)) ∧ Below w.heap.size w w' := by
  have hb0 := cell_below w (.cells #[.int .i64 k, .slice uo u.length ucap] 31)
  have d0 : (w.alloc (.cells #[.int .i64 k, .slice uo u.length ucap] 31)).cell? ⟨w.heap.size, 0, none⟩ = some (.int .i64 k) := by
    have hb := World.alloc_heap_new w (.cells #[.int .i64 k, .slice uo u.length ucap] 31)
    simp only [World.cell?]; rw [hb]; rfl
  have d1 : (w.alloc (.cells #[.int .i64 k, .slice uo u.length ucap] 31)).cell? ⟨w.heap.size, 1, none⟩ = some (.slice uo u.length ucap) := by
    have hb := World.alloc_heap_new w (.cells #[.int .i64 k, .slice uo u.length ucap] 31)
    simp only [World.cell?]; rw [hb]; rfl
  have hul := hU.len
  have HQ := hide (fun (W : World) (hW : Below w.heap.size w W) => l4Top_any ao cap t W (hT.below hW))
  have HOK := hide (fun (W : World) (hW : Below w.heap.size w W) => specTrmOk_any uo ucap u W (Nat.le_trans hU.cap1 hU.cap2) (hU.below hW).row hU.fit)
  have HC := hide (fun (W : World) (hW : Below w.heap.size w W) => specTrmCanon_any uo ucap u W hU.len (hU.below hW).row)
  have HS := hide (fun (W0 W : World) (hW : Below w.heap.size w W) (xa : Option Addr) (xc : Nat) (ho : OwnC W W0.heap.size (.slice xa (canonOf u).length xc) (canonOf u)) => specTrmSame_any xa uo xc ucap (canonOf u) u W (by rw [canonOf_length]; have := hU.len; unfold maxLen; omega) ho.row (hU.below hW).row)
  have HSH := hide (fun (hq : isQ t = true) (n : Nat) (hn : n ≤ 40) (W : World) (hW : Below w.heap.size w W) => l1Shift_row ao cap t n W hT.len (hT.below hW).row (isQ_parts hq).1 (by omega))
  have HTD := hide (fun (hy : trm u = true) (W : World) (hW : Below w.heap.size w W) => (hTd hy).below hW)
  have HR := hide hr
  clear hT hU hr hTd
  go_enter Try.func9, Try.ntmps9
  go_wp2_with fail
  generalize w.alloc (.cells #[.int .i64 k, .slice uo u.length ucap] 31) = w0 at hb0 d0 d1 ⊢
  have hl0 : w.heap.size < w0.heap.size := World.block_lt_of_cell? w0 ⟨_, _, none⟩ d1
  have hlo : w.heap.size ≤ w0.heap.size := Nat.le_of_lt hl0
  refine (unhide HQ w0 hb0).mono ?_
  rintro e w1 ⟨rfl, hb1⟩
  replace d0 := (hb1.cell (p := ⟨w.heap.size, 0, none⟩) hl0).trans d0
  replace d1 := (hb1.cell (p := ⟨w.heap.size, 1, none⟩) hl0).trans d1
  replace hl0 : w.heap.size < w1.heap.size := World.block_lt_of_cell? w1 ⟨_, _, none⟩ d1
  have hB1 := bstep hb0 hb1
  have HOB : Hid (outB k t u r = (isQ t && (if k = 3 ∨ k = 4 ∨ k = 5 then decide (u.length = 0) else decide (k = 2) && trm u && sameS (canonOf u) u && r))) := rfl
  cases hq : isQ t with
  | false =>
    rw [hq] at HOB
    clear HOK HC HS HSH HTD HR HQ
    go_wp2
    go_ret
    exact ⟨by rw [unhide HOB]; rfl, hB1⟩
  | true =>
    rw [hq] at HOB
    by_cases k2 : k = 2
    · subst k2
      rw [if_neg (by omega)] at HOB
      have hB1d := hB1.drew
      have HO1 := hide (unhide HOK w1.drew hB1d)
      cases hy : trm u with
      | false =>
        rw [hy] at HO1
        have HOB2 : Hid (outB 2 t u r = false) := by show _ = _; rw [unhide HOB, hy]; simp
        clear HOK HC HS HSH HTD HR HQ HOB hul
        go_wp2
        refine wp_region_any (by kernel_rfl) ?_
        try (change wpAny _ _ _ _ _ _ _ (World.drew _))
        refine wpAny_take (i := 0) (v := ?v0) rfl (by kernel_rfl) (by kernel_rfl) (by kernel_rfl) (fun _ _ _ h => h) (Or.inl ⟨by rfl, ?y0⟩) ?_
        case y0 => (intro w; go_simp; first | done | with_reducible rfl)
        simp only [Act.put, List.getElem_toArray, List.getElem_cons_zero, List.getElem_cons_succ, List.setIfInBounds_toArray, List.set_cons_zero, List.set_cons_succ]
        refine wpAny_ready (rs := [1]) (by kernel_rfl) (by simp) ?_
        refine AllReady.cons rfl (fun K hK => ?_) AllReady.nil
        go_simp
        try (refine hK _ _ ?_; clear hK K)
        refine wpAny_ready (rs := [2]) (by kernel_rfl) (by simp) ?_
        refine AllReady.cons rfl (fun K hK => ?_) AllReady.nil
        go_simp
        go_wp2_with (go_at_call 34; refine (unhide HO1).mono ?_; rintro e w2 ⟨rfl, hb2⟩)
        try (refine hK _ _ ?_; clear hK K)
        refine wpAny_take (i := 3) (v := ?v3) rfl (by kernel_rfl) (by kernel_rfl) (by kernel_rfl) (fun _ _ _ h => h) (Or.inl ⟨by rfl, ?y3⟩) ?_
        case y3 => (intro w; go_simp; first | done | with_reducible rfl)
        simp only [Act.put, List.getElem_toArray, List.getElem_cons_zero, List.getElem_cons_succ, List.setIfInBounds_toArray, List.set_cons_zero, List.set_cons_succ]
        refine wpAny_take (i := 4) (v := ?v4) rfl (by kernel_rfl) (by kernel_rfl) (by kernel_rfl) (fun _ _ _ h => h) (Or.inl ⟨by rfl, ?y4⟩) ?_
        case y4 => (intro w; go_simp; first | done | with_reducible rfl)
        simp only [Act.put, List.getElem_toArray, List.getElem_cons_zero, List.getElem_cons_succ, List.setIfInBounds_toArray, List.set_cons_zero, List.set_cons_succ]
        refine wpAny_take (i := 5) (v := undef) rfl (by kernel_rfl) (by kernel_rfl) (by kernel_rfl) (fun _ _ _ h => h) (Or.inr ⟨by rfl, rfl⟩) ?_
        simp only [Act.put, List.getElem_toArray, List.getElem_cons_zero, List.getElem_cons_succ, List.setIfInBounds_toArray, List.set_cons_zero, List.set_cons_succ]
        refine wpAny_take (i := 6) (v := undef) rfl (by kernel_rfl) (by kernel_rfl) (by kernel_rfl) (fun _ _ _ h => h) (Or.inr ⟨by rfl, rfl⟩) ?_
        simp only [Act.put, List.getElem_toArray, List.getElem_cons_zero, List.getElem_cons_succ, List.setIfInBounds_toArray, List.set_cons_zero, List.set_cons_succ]
        refine wpAny_take (i := 7) (v := undef) rfl (by kernel_rfl) (by kernel_rfl) (by kernel_rfl) (fun _ _ _ h => h) (Or.inr ⟨by rfl, rfl⟩) ?_
        simp only [Act.put, List.getElem_toArray, List.getElem_cons_zero, List.getElem_cons_succ, List.setIfInBounds_toArray, List.set_cons_zero, List.set_cons_succ]
        refine wpAny_take (i := 8) (v := undef) rfl (by kernel_rfl) (by kernel_rfl) (by kernel_rfl) (fun _ _ _ h => h) (Or.inr ⟨by rfl, rfl⟩) ?_
        simp only [Act.put, List.getElem_toArray, List.getElem_cons_zero, List.getElem_cons_succ, List.setIfInBounds_toArray, List.set_cons_zero, List.set_cons_succ]
        refine wpAny_take (i := 9) (v := undef) rfl (by kernel_rfl) (by kernel_rfl) (by kernel_rfl) (fun _ _ _ h => h) (Or.inr ⟨by rfl, rfl⟩) ?_
        simp only [Act.put, List.getElem_toArray, List.getElem_cons_zero, List.getElem_cons_succ, List.setIfInBounds_toArray, List.set_cons_zero, List.set_cons_succ]
        refine wpAny_take (i := 10) (v := undef) rfl (by kernel_rfl) (by kernel_rfl) (by kernel_rfl) (fun _ _ _ h => h) (Or.inr ⟨by rfl, rfl⟩) ?_
        simp only [Act.put, List.getElem_toArray, List.getElem_cons_zero, List.getElem_cons_succ, List.setIfInBounds_toArray, List.set_cons_zero, List.set_cons_succ]
        refine wpAny_take (i := 11) (v := undef) rfl (by kernel_rfl) (by kernel_rfl) (by kernel_rfl) (fun _ _ _ h => h) (Or.inr ⟨by rfl, rfl⟩) ?_
        simp only [Act.put, List.getElem_toArray, List.getElem_cons_zero, List.getElem_cons_succ, List.setIfInBounds_toArray, List.set_cons_zero, List.set_cons_succ]
        refine wpAny_take (i := 12) (v := ?v12) rfl (by kernel_rfl) (by kernel_rfl) (by kernel_rfl) (fun _ _ _ h => h) (Or.inl ⟨by rfl, ?y12⟩) ?_
        case y12 => (intro w; go_simp; first | done | with_reducible rfl)
        simp only [Act.put, List.getElem_toArray, List.getElem_cons_zero, List.getElem_cons_succ, List.setIfInBounds_toArray, List.set_cons_zero, List.set_cons_succ]
        refine wpAny_done (by kernel_rfl) ?_ _
        go_wp2
        go_ret
        exact ⟨by rw [unhide HOB2]; rfl, bstep hB1d hb2⟩
      | true =>
        rw [hy] at HO1
        have HOB2 : Hid (outB 2 t u r = (sameS (canonOf u) u && r)) := by show _ = _; rw [unhide HOB, hy]; simp
        obtain ⟨Q, hQ⟩ : ∃ Q, Q = sameS (canonOf u) u := ⟨_, rfl⟩
        rw [← hQ] at HOB2 HS
        have HL := hide (trm_len hy).2
        have HYT := hide hy
        have HQT := hide hq
        clear HOK HQ HOB hul hQ hy hq
        go_wp2
        go_region_held3 (fun w' => w'.cell? ⟨w.heap.size, 0, none⟩ = some (.int .i64 2) ∧ w'.cell? ⟨w.heap.size, 1, none⟩ = some (.slice uo u.length ucap)) (first | (refine ⟨?_, ?_⟩ <;> assumption) | go_keep) (first
          | (go_at_call 35; have hx := hb3; refine (unhide HS w2 w3 hB3 xa xc ho3).mono ?_; rintro e w4 ⟨rfl, hb4⟩; have g0 := (hb4.cell (p := ⟨w.heap.size, 0, none⟩) hl3).trans f0; have g1 := (hb4.cell (p := ⟨w.heap.size, 1, none⟩) hl3).trans f1; have hl4 : w.heap.size < w4.heap.size := World.block_lt_of_cell? w4 ⟨_, _, none⟩ g1; have hB4 := bstep hB3 hb4)
          | (go_at_call 36; have hx := hb2; refine (unhide HC w2 hB2).mono ?_; rintro e w3 ⟨v, rfl, ho3, hb3⟩; obtain ⟨xa, xc, rfl, _⟩ := ho3.shape; have f0 := (hb3.cell (p := ⟨w.heap.size, 0, none⟩) hl2).trans e0; have f1 := (hb3.cell (p := ⟨w.heap.size, 1, none⟩) hl2).trans e1; have hl3 : w.heap.size < w3.heap.size := World.block_lt_of_cell? w3 ⟨_, _, none⟩ f1; have hB3 := bstep hB2 hb3)
          | (go_at_call 34; refine (unhide HO1).mono ?_; rintro e w2 ⟨rfl, hb2⟩; have e0 := (hb2.cell (p := ⟨w.heap.size, 0, none⟩) hl0).trans d0; have e1 := (hb2.cell (p := ⟨w.heap.size, 1, none⟩) hl0).trans d1; have hl2 : w.heap.size < w2.heap.size := World.block_lt_of_cell? w2 ⟨_, _, none⟩ e1; have hB2 := bstep hB1d hb2))
        cases Q with
        | false =>
          go_wp2
          go_ret
          exact ⟨by rw [unhide HOB2]; rfl, hB4⟩
        | true =>
          have HRR := hide (unhide HR (unhide HQT) (unhide HYT))
          clear HR HO1 d0 d1 e0 e1 f0 f1 HC HS hb2 hb3 hb4 hl2 hl3 hB2 hB3 hB1d
          obtain ⟨n, res, sf, hU, hr⟩ := unhide HRR
          have HU := hide hU
          have HRE := hide hr
          clear hU hr HRR
          have hB4d := hB4.drew
          have hO4 := ownB_lit0 w4.drew
          have ga0 := ((cell_below w4.drew (.cells #[] 124)).cell (p := ⟨w.heap.size, 0, none⟩) hl4).trans g0
          have ga1 := ((cell_below w4.drew (.cells #[] 124)).cell (p := ⟨w.heap.size, 1, none⟩) hl4).trans g1
          have hB4a := bstep hB4d (cell_below w4.drew (.cells #[] 124))
          have hl4a : w.heap.size < (w4.drew.alloc (.cells #[] 124)).heap.size := Nat.lt_of_lt_of_le hl4 (cell_below w4.drew (.cells #[] 124)).size
          have HTS := hide (trm_shiftQ (unhide HQT) (unhide HL))
          go_wp2
          go_region_held3 (fun w' => w'.cell? ⟨w.heap.size, 0, none⟩ = some (.int .i64 2) ∧ w'.cell? ⟨w.heap.size, 1, none⟩ = some (.slice uo u.length ucap)) (first | (refine ⟨?_, ?_⟩ <;> assumption) | go_keep) (first
            | (go_at_call 37; have hx := hA5; refine (l2Unify_nil w4.heap.size (w.heap.size + 1) n _ _ _ u res sf w5 hl4 (Nat.le_trans (cell_below w4.drew (.cells #[] 124)).size hb5.size) (ownB_keep hO4 hb5) (own_tdT ho5 (by rw [List.length_map]; exact (trm_len (isQ_parts (unhide HQT)).1).1)) (unhide HTD (unhide HYT) w5 (bstep hB4a hb5)) (unhide HTS) (unhide HYT) (unhide HU)).mono ?_; rintro e w6 ⟨⟨uu, rfl⟩, hb6⟩; have j0 := (hb6.cell (p := ⟨w.heap.size, 0, none⟩) (by simp)).trans i0; have j1 := (hb6.cell (p := ⟨w.heap.size, 1, none⟩) (by simp)).trans i1; have hB6 : Below w.heap.size w w6 := (bstep hB4a hb5).trans (hb6.mono (by omega)))
            | (go_at_call 37; have hx := hB5; refine (l2Unify_nil w5.heap.size (w.heap.size + 1) n _ _ _ u res sf (w5.alloc (.cells #[] 124)) hl5 (cell_below w5 (.cells #[] 124)).size (ownB_lit0 w5) (own_tdT (ho5.below (cell_below w5 (.cells #[] 124))) (by rw [List.length_map]; exact (trm_len (isQ_parts (unhide HQT)).1).1)) (unhide HTD (unhide HYT) _ (bstep (bstep hB4d hb5) (cell_below w5 (.cells #[] 124)))) (unhide HTS) (unhide HYT) (unhide HU)).mono ?_; rintro e w6 ⟨⟨uu, rfl⟩, hb6⟩; have j0 := (hb6.cell (p := ⟨w.heap.size, 0, none⟩) (by simp)).trans ia0; have j1 := (hb6.cell (p := ⟨w.heap.size, 1, none⟩) (by simp)).trans ia1; have hB6 : Below w.heap.size w w6 := (bstep (bstep hB4d hb5) (cell_below w5 (.cells #[] 124))).trans (hb6.mono (by omega)))
            | (go_at_call 38; refine (unhide HSH (unhide HQT) u.length (unhide HL) (w4.drew.alloc (.cells #[] 124)) hB4a).mono ?_; rintro e w5 ⟨v, rfl, ho5, hb5⟩; have hA5 := True.intro; have i0 := (hb5.cell (p := ⟨w.heap.size, 0, none⟩) hl4a).trans ga0; have i1 := (hb5.cell (p := ⟨w.heap.size, 1, none⟩) hl4a).trans ga1)
            | (go_at_call 38; refine (unhide HSH (unhide HQT) u.length (unhide HL) w4.drew hB4d).mono ?_; rintro e w5 ⟨v, rfl, ho5, hb5⟩; have hB5 := True.intro; have i0 := (hb5.cell (p := ⟨w.heap.size, 0, none⟩) hl4).trans g0; have i1 := (hb5.cell (p := ⟨w.heap.size, 1, none⟩) hl4).trans g1; have hl5 : w.heap.size < w5.heap.size := World.block_lt_of_cell? w5 ⟨_, _, none⟩ i1; have ia0 := ((cell_below w5 (.cells #[] 124)).cell (p := ⟨w.heap.size, 0, none⟩) hl5).trans i0; have ia1 := ((cell_below w5 (.cells #[] 124)).cell (p := ⟨w.heap.size, 1, none⟩) hl5).trans i1))
          all_goals (go_wp2; go_ret; exact ⟨by rw [unhide HOB2, unhide HRE]; rfl, hB6⟩)
    · have hne : (k != 2) = true := by simp [k2]
      have HI := hide (l1In_any k 3 5 w1)
      clear HOK HC HS HSH HTD HR HQ
      by_cases hk : 3 ≤ k ∧ k ≤ 5
      · have hd : decide (3 ≤ k ∧ k ≤ 5) = true := by simp [hk]
        rw [hd] at HI
        have hk' : k = 3 ∨ k = 4 ∨ k = 5 := by omega
        rw [if_pos hk'] at HOB
        clear hd hk hk'
        go_wp2_with (go_at_call 33; refine (unhide HI).mono ?_; rintro e w2 ⟨rfl, rfl⟩)
        go_ret
        exact ⟨by rw [unhide HOB]; congr 2; cases u <;> simp <;> omega, hB1⟩
      · have hd : decide (3 ≤ k ∧ k ≤ 5) = false := by simp only [decide_eq_false_iff_not]; exact hk
        rw [hd] at HI
        rw [if_neg (by omega)] at HOB
        have HOB2 : Hid (outB k t u r = false) := by show _ = _; rw [unhide HOB]; simp [k2]
        clear hd hk HOB
        go_wp2_with (go_at_call 33; refine (unhide HI).mono ?_; rintro e w2 ⟨rfl, rfl⟩)
        go_ret
        exact ⟨by rw [unhide HOB2]; rfl, hB1⟩
end Go.Proofs.Ytonpahhcfgdeoaa
