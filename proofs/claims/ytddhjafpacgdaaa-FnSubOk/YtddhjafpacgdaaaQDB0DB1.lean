import Derived.Test.YtddhjafpacgdaaaQPB6
import Derived.Test.YtddhjafpacgdaaaQW10W13SB1
import Derived.Test.YtddhjafpacgdaaaQU5
import Derived.Test.YtddhjafpacgdaaaQDT1DT2
/- Which variables bindings are of that unify makes. -/
namespace Go.Proofs.Ytddhjafpacgdaaa
set_option linter.unusedVariables false

/-- All variables of bindings are of a kind. -/
def VarsB (Q : Int → Prop) (s : List B) : Prop := ∀ x ∈ s, Q x.v ∧ ∀ u, varIn x.t u → Q u
theorem VarsB.get {Q : Int → Prop} {s : List B} (h : VarsB Q s) {v u : Int} (hu : varIn (getB s v) u) : Q u := by
  obtain ⟨x, hx, _, e⟩ := getB_mem (ne_of_varIn hu)
  rw [← e] at hu
  exact (h x hx).2 u hu
theorem Now.vars {Q : Int → Prop} {s : List B} (hV : VarsB Q s) {n : Nat} {t x : List C} (h : Now s n t x) : (∀ v, varIn t v → Q v) → ∀ v, varIn x v → Q v := by
  induction h with
  | stop => exact fun h => h
  | on _ _ _ ih => exact fun _ => ih (fun v hv => hV.get hv)
theorem VarsB.snoc {Q : Int → Prop} {s : List B} (h : VarsB Q s) {v : Int} {y : List C} (hv : Q v) (hy : ∀ u, varIn y u → Q u) : VarsB Q (s ++ [⟨v, y⟩]) := fun x hx => by
  rcases List.mem_append.1 hx with hx | hx
  · exact h x hx
  · simp at hx; subst hx; exact ⟨hv, hy⟩
theorem varIn_tail {c : C} {ks : List (List C)} {k : List C} (hk : k ∈ ks) {v : Int} (h : varIn k v) : varIn (c :: ks.flatten) v := varIn_cons.2 (.inr (varIn_flat hk h))

theorem Uni.vars {Q : Int → Prop} {n : Nat} {s sf : List B} {ps : List (List C × List C)} {res : Option (List B)} (h : Uni n s ps res sf) : VarsB Q s → (∀ p ∈ ps, ∀ u, varIn p.1 u ∨ varIn p.2 u → Q u) → VarsB Q sf := by
  induction h with
  | done => exact fun h _ => h
  | args hx hy hxs hys _ _ _ ih =>
    intro hs hp
    have h0 := hp _ (List.mem_cons_self)
    have h1 := hx.vars hs (fun v hv => h0 v (.inl hv))
    have h2 := hy.vars hs (fun v hv => h0 v (.inr hv))
    refine ih hs (fun q hq u hu => ?_)
    rcases List.mem_append.1 hq with hq | hq
    · rcases hu with hu | hu
      · exact h1 u (varIn_tail (zip_mem hq).1 hu)
      · exact h2 u (varIn_tail (zip_mem hq).2 hu)
    · exact hp q (List.mem_cons_of_mem _ hq) u hu
  | @bindL n n1 n2 s sf a b y r c res hx hy hc hne hr _ ih =>
    intro hs hp
    have h0 := hp _ (List.mem_cons_self)
    have h1 := hx.vars hs (fun v hv => h0 v (.inl hv))
    have h2 := hy.vars hs (fun v hv => h0 v (.inr hv))
    exact ih (hs.snoc (h1 c.n ⟨c, by simp, hc, rfl⟩) h2) (fun q hq => hp q (List.mem_cons_of_mem _ hq))
  | ringL => exact fun h _ => h
  | @bindR n n1 n2 s sf a b x r c d res hx hy hc hd hr _ ih =>
    intro hs hp
    have h0 := hp _ (List.mem_cons_self)
    have h1 := hx.vars hs (fun v hv => h0 v (.inl hv))
    have h2 := hy.vars hs (fun v hv => h0 v (.inr hv))
    exact ih (hs.snoc (h2 c.n ⟨c, by simp, hc, rfl⟩) h1) (fun q hq => hp q (List.mem_cons_of_mem _ hq))
  | ringR => exact fun h _ => h
  | apart => exact fun h _ => h

/-- Bindings of few variables are few. -/
theorem few_len {s : List B} {m : Nat} (h : Once s) (hr : ∀ x ∈ s, 0 ≤ x.v ∧ x.v ≤ (m : Int)) : s.length ≤ m + 1 := by
  have h2 := nodup_len (l := (s.map (·.v))) (V := (List.range (m + 1)).map Int.ofNat) h (fun x hx => by
    obtain ⟨y, hy, rfl⟩ := List.mem_map.1 hx
    have := hr y hy
    exact List.mem_map.2 ⟨y.v.toNat, List.mem_range.2 (by omega), by simp; omega⟩)
  simpa using h2
theorem tot_le {s : List B} (h : ∀ x ∈ s, x.t.length ≤ 40) : tot s ≤ 40 * s.length := by
  induction s with
  | nil => simp [tot]
  | cons x s ih =>
    have h1 := h x (by simp)
    have h2 := ih (fun y hy => h y (by simp [hy]))
    simp [tot]
    omega
end Go.Proofs.Ytddhjafpacgdaaa

/- What is drawn: bindings that are ok (l20Binds). -/
namespace Go.Proofs.Ytddhjafpacgdaaa
open Go.RowKit
set_option linter.unusedVariables false
set_option linter.unusedSimpArgs false

theorem okC_fit {c : C} (h : okC c = true) : c.s.size ≤ maxLen ∧ (Lit.int .i64 c.k).wf = true ∧ (Lit.int .i64 c.n).wf = true := by
  have hn := okC_num h
  have hk : (1 ≤ c.k ∧ c.k ≤ 3) ∧ c.s.size ≤ 8 := by
    unfold okC at h
    split at h
    · simp only [Bool.and_eq_true, decide_eq_true_eq] at h; omega
    · split at h
      · simp only [Bool.and_eq_true, decide_eq_true_eq] at h; omega
      · split at h
        · simp [nameB] at h; omega
        · cases h
  exact ⟨by unfold maxLen; omega, WalkArith.wf_i64 (by omega), WalkArith.wf_i64 (by omega)⟩
theorem GoodB.fit {s : List B} (h : GoodB s) : FitB s := fun x hx => by
  have ht := (h.ok.term x hx).2
  have hr := h.range x hx
  exact ⟨fun c hc => (okC_fit (ht c hc)).1, fun c hc => (okC_fit (ht c hc)).2, WalkArith.wf_i64 (by omega)⟩

theorem OwnB.grown {w w' : World} {lo hi : Nat} {v : Value} {s : List B} {row : Option Nat} (h : OwnB w lo hi v s) (hh : hi ≤ w.heap.size) (hg : w.grownBy w' row) (hr : ∀ k, row = some k → k < lo ∨ hi ≤ k) : OwnB w' lo hi v s :=
  h.kept (fun k h1 h2 => hg.block k (by omega) (fun e => by have := hr k e.symm; omega))

/-- Bindings were drawn; the reader has gone on, by at most d. -/
def DrewS (w : World) (R p d : Nat) (e : Ending) (w' : World) : Prop :=
  ∃ v s p', e = .returned v ∧ OwnB w' w.heap.size w'.heap.size v s ∧ (GoodB s ∧ VarsB (· ≤ 10000) s) ∧ Rd w' R p' ∧ p' ≤ p + d ∧ w.grownBy w' (some R)

/-- How far l20Binds has come. -/
def BindsAt (w : World) (R p : Nat) (sv i : Value) (wr : World) : Prop :=
  ∃ (s : List B) (j p' : Nat), j ≤ 5 ∧ i = .int .i64 (j : Int) ∧ OwnB wr w.heap.size wr.heap.size sv s ∧ (GoodB s ∧ VarsB (· ≤ 10000) s) ∧ Rd wr R p' ∧ p' + 400 * j ≤ p + 2001 ∧ w.grownBy wr (some R)

set_option maxRecDepth 100000 in
set_option maxHeartbeats 4000000 in
theorem binds_any (R p : Nat) (w : World) (hp : p ≤ 999980000) (h : Rd w R p) :
    Calls Try.prog 100 #[.pointer (some ⟨R, 0, none⟩)] w (DrewS w R p 2001) := by
  have hlt := h.lt
  go_enter Try.func100, Try.ntmps100
  go_wp2_with fail
  refine (pick_any R p 6 _ (by omega) (by omega) (by omega) (h.alloc _)).mono ?_
  rintro e w1 ⟨r, rfl, hr0, hr1, hR1, hG1⟩
  obtain ⟨j, rfl⟩ := Int.eq_ofNat_of_zero_le hr0
  have HS : Hid (BindsAt w R p (.slice (some ⟨w.heap.size, 0, none⟩) 0 0) (.int .i64 (j : Int)) w1) := by
    refine ⟨[], j, p + 1, by omega, rfl, ?_, ⟨GoodB.nil, fun x h => by simp at h⟩, hR1, by omega, grown_first hG1⟩
    have h0 : OwnB (w.alloc (.cells #[] 51)) w.heap.size (w.alloc (.cells #[] 51)).heap.size (.slice (some ⟨w.heap.size, 0, none⟩) 0 0) [] := ⟨[], rfl, by simpa [flatB] using World.ownsRow_made (base := w.heap.size) (e := 51) (size := 2) w #[] 0 (Nat.le_refl _) (by simp [maxLen]) rfl, fun i h => by simp at h, by simp, by simp, fun k e => by simp [Value.ownBlock] at e; simp; omega⟩
    exact (h0.grown (Nat.le_refl _) hG1 (fun k e => .inl (by cases e; exact hlt))).hi_le hG1.size
  clear hR1 hG1 h
  go_wp2
  go_loopw [3, 4] (fun sv i wr => BindsAt w R p sv i wr) (fun _ i _ => (intOf i).toNat)
  case atStart => exact unhide HS
  case round =>
    clear HS
    obtain ⟨s, j, p', hj, rfl, hO, ⟨hgood, hvars⟩, hR, hp', hG⟩ := hrel
    have HV := hide hvars
    clear hvars
    obtain ⟨sa, sc, rfl, _, _, hrow⟩ := hO.shape
    have hsl := hgood.len
    have hws := hG.size
    by_cases hj0 : 0 < j
    · have HO := hide hO
      have HG := hide hG
      have HGOOD := hide hgood
      have hlr := hR.lt
      have HCP := hide (l2Copy_any sa sc s wr (by omega) (fun x hx => ⟨List.length_pos_iff.2 (hgood.ok.term x hx).ne, Nat.le_trans (hgood.short x hx) (by omega)⟩) hrow)
      clear hO hG hgood hrow
      go_wp2_with fail
      refine (unhide HCP).mono ?_
      clear HCP
      rintro e w1 ⟨cv, rfl, hOc, hb1⟩
      have hR1 := hR.below hb1
      have hw1 := hb1.size
      clear hR
      go_wp2_with fail
      refine (term_ok R p' 8 6 _ (by omega) (by omega) (by omega) (by omega) (by omega) hR1).mono ?_
      rintro e w2 ⟨v1, t1, p1, rfl, hO1, ht1, hd1, hR2, hp1, hG2⟩
      have HD1 := hide hd1
      clear hd1
      clear hR1
      go_wp2_with fail
      refine (term_ok R p1 8 6 _ (by omega) (by omega) (by omega) (by omega) (by omega) hR2).mono ?_
      rintro e w3 ⟨v2, t2, p2, rfl, hO2, ht2, hd2, hR3, hp2, hG3⟩
      have HD2 := hide hd2
      clear hd2
      clear hR2
      have hl1 := trm_len ht1
      have hl2 := trm_len ht2
      have hw2 := hG2.size
      have hw3 := hG3.size
      have hgood := unhide HGOOD
      obtain ⟨n, res, sf, hU⟩ := uni_all (ps := [(t1, t2)]) hgood.ok (fun q hq => by simp at hq; subst hq; exact ⟨trm_Trm ht1, trm_Trm ht2⟩)
      have hRm := Room.begin hU hgood.ok hgood.range hgood.short (trm_Trm ht1) (trm_Trm ht2) hl1.2 hl2.2
      have hOc3 : OwnB w3 wr.heap.size w3.heap.size cv s := ((hOc.grown (Nat.le_refl _) hG2 (fun k e => .inl (by cases e; exact hlr))).grown hw2 hG3 (fun k e => .inl (by cases e; exact hlr))).hi_le (by omega)
      have hT1 : TdT w3 v1 t1 := own_tdT (own_apart hO1 hG3 (fun k e => .inl (by cases e; omega))) hl1.1
      have hT2 : TdT w3 v2 t2 := own_tdT hO2 hl2.1
      obtain ⟨ca, cc, rfl, _⟩ := hOc3.shape
      have HUN := hide (l2Unify_any ca cc wr.heap.size s sf v1 v2 t1 t2 n res w3 (by omega) hOc3 hT1 hT2 hU hRm)
      have HV2 := hide (hU.vars (unhide HV) (fun q hq u hu => by
        simp at hq; subst hq
        rcases hu with ⟨c, hc, _, rfl⟩ | ⟨c, hc, _, rfl⟩
        · exact (unhide HD1 c hc).2.2.2.1
        · exact (unhide HD2 c hc).2.2.2.1))
      have HSF := hide (hU.ok hgood.ok (fun q hq => by simp at hq; subst hq; exact ⟨trm_Trm ht1, trm_Trm ht2⟩)).2.2
      have HNXT : Hid (∀ (w4 : World) (u : Value), (∀ s', res = some s' → OwnB w4 wr.heap.size w4.heap.size u s') → w3.grownBy w4 (Value.slice ca s.length cc).ownBlock → BindsAt w R p (if res.isSome then u else .slice sa s.length sc) (.int .i64 ((j : Int) - 1)) w4) := by
        intro w4 u hu hg4
        have hblk : ∀ k, (Value.slice ca s.length cc).ownBlock = some k → wr.heap.size ≤ k := by
          obtain ⟨us, _, e2, _⟩ := hOc3
          exact fun k e => (e2.lt k e).1
        have hR4 : Rd w4 R p2 := hR3.grown hg4 (fun k e => by have := hblk k e; omega)
        have hO' : OwnB w4 w.heap.size w4.heap.size (.slice sa s.length sc) s := (((((unhide HO).below (Nat.le_refl _) hb1).grown hw1 hG2 (fun k e => .inl (by cases e; exact hlt))).grown (by omega) hG3 (fun k e => .inl (by cases e; exact hlt))).grown (by omega) hg4 (fun k e => .inr (hblk k e))).hi_le (by have := hg4.size; omega)
        have hGG : w.grownBy w4 (some R) := by
          have g1 : w.grownBy w1 (some R) := grown_trans (unhide HG) ⟨hb1.os, hb1.tape, hb1.output, hb1.size, fun k hk _ => hb1.block k hk⟩
          have g3 := grown_trans (grown_trans g1 hG2) hG3
          exact ⟨hg4.os.trans g3.os, hg4.tape.trans g3.tape, hg4.output.trans g3.output, Nat.le_trans g3.size hg4.size, fun k hk hn => (hg4.block k (Nat.lt_of_lt_of_le hk g3.size) (fun e => by have := hblk k e.symm; omega)).trans (g3.block k hk hn)⟩
        obtain ⟨j', rfl⟩ : ∃ j', j = j' + 1 := ⟨j - 1, by omega⟩
        cases hres : res with
        | none => exact ⟨s, j', p2, by omega, by simp, hO', ⟨unhide HGOOD, unhide HV⟩, hR4, by omega, hGG⟩
        | some s2 => exact ⟨s2, j', p2, by omega, by simp, (hu s2 hres).lo_le hws, ⟨((hU.room hRm) s2 hres).good, by rw [unhide HSF s2 hres]; exact unhide HV2⟩, hR4, by omega, hGG⟩
      clear hOc hOc3 hT1 hT2 hO1 hO2 hU hRm hgood HO HG HGOOD ht1 ht2
      go_wp2_with fail
      refine (unhide HUN).mono ?_
      clear HUN
      rintro e w4 ⟨u, rfl, hu, hg4, _⟩
      have HN := hide (unhide HNXT w4 u hu hg4)
      clear HNXT hu hg4
      cases hres : res with
      | none =>
        rw [hres] at HN
        simp only [Option.isSome_none, Bool.false_eq_true, if_false] at HN ⊢
        clear hres
        go_wp2
        go_roundw
        case rel => (have h := unhide HN; (first | exact h | simpa using h))
        case measure => simp [intOf]; omega
      | some s2 =>
        rw [hres] at HN
        simp only [Option.isSome_some, if_true] at HN ⊢
        clear hres
        go_wp2
        go_roundw
        case rel => (have h := unhide HN; (first | exact h | simpa using h))
        case measure => simp [intOf]; omega
    · have e : j = 0 := by omega
      subst e
      have HF : Hid (DrewS w R p 2001 (.returned (.slice sa s.length sc)) wr) := ⟨_, s, p', rfl, hO, ⟨hgood, unhide HV⟩, hR, by omega, hG⟩
      clear hO hgood hR hG hrow
      go_wp2
      go_ret
      exact unhide HF
end Go.Proofs.Ytddhjafpacgdaaa
