/- SubUnify of a variable and a term; the walk of the law FnSubVar. -/
import Derived.Test.YtcimlcmhodpalaaQUF1UF2
import Derived.Test.YtcimlcmhodpalaaQD6L1
import Derived.Test.YtcimlcmhodpalaaQW7W18T5
import Derived.Test.YtcimlcmhodpalaaQW4W6SB2
namespace Go.Proofs.Ytcimlcmhodpalaa
open Go.RowKit
set_option linter.unusedVariables false
set_option linter.unusedSimpArgs false

theorem ownC_one1 (W : World) (c : C) : OwnC (W.alloc (.cells #[.int .i64 c.k, .int .i64 c.n, .string c.s] 36)) W.heap.size (.slice (some ⟨W.heap.size, 0, none⟩) 1 1) [c] :=
  ⟨rfl, .inr ⟨W.heap.size, 1, _, rfl, Nat.le_refl _, World.alloc_heap_new W _, Nat.le_refl _, by simp [maxLen], rfl, rfl⟩⟩
theorem ownC_two1 (W : World) (c d : C) : OwnC (W.alloc (.cells #[.int .i64 c.k, .int .i64 c.n, .string c.s, .int .i64 d.k, .int .i64 d.n, .string d.s] 36)) W.heap.size (.slice (some ⟨W.heap.size, 0, none⟩) 2 2) [c, d] :=
  ⟨rfl, .inr ⟨W.heap.size, 2, _, rfl, Nat.le_refl _, World.alloc_heap_new W _, Nat.le_refl _, by simp [maxLen], rfl, rfl⟩⟩

/-- A variable's place. -/
def vC (v : Int) : C := ⟨1, v, ⟨#[]⟩⟩
def fC : C := ⟨3, 1, ⟨#[102]⟩⟩
theorem okC_vC {v : Int} (h : 0 ≤ v ∧ v ≤ 99999) : okC (vC v) = true := by simp [okC, vC, h.1, h.2]; decide
theorem okC_fC : okC fC = true := by decide
theorem tm_vC (v : Int) : Tm 1 [vC v] := ⟨vC v, [], rfl, by simp [ari, vC], fun k h => by simp at h⟩
theorem trm_vC {v : Int} (h : 0 ≤ v ∧ v ≤ 99999) : trm [vC v] = true := tree_trm (tm_vC v) (by simp) (fun c hc => by simp at hc; subst hc; exact okC_vC h)
theorem trm_fC {v : Int} (h : 0 ≤ v ∧ v ≤ 99999) : trm [fC, vC v] = true := by
  refine tree_trm (f := 2) ⟨fC, [[vC v]], by simp, by simp [ari, fC], fun k hk => ?_⟩ (by simp) (fun c hc => ?_)
  · simp at hk; subst hk; exact tm_vC v
  · simp at hc
    rcases hc with rfl | rfl
    · exact okC_fC
    · exact okC_vC h
theorem subOk_nil : subOk [] = true := subOk_yes (fun k h => by simp at h)
theorem exp_nil (t : List C) : ∃ n, Exp [] n t t := ⟨_, Exp.self (fun c _ _ => rfl)⟩
theorem reach_nil {t : List C} {v : Int} (h : Reach [] t v) : varIn t v := by
  cases h with
  | here h => exact h
  | step _ h => exact absurd h (varIn_nil _)
theorem now_nil {t : List C} (h : t ≠ []) : Now [] 0 t t := by
  cases t with
  | nil => exact absurd rfl h
  | cons c r => exact .stop (fun _ => rfl)

theorem um_wrong {t : List C} (h : trm t = false) : UM [] t t [] 4 := .inr ⟨fun hc => (by rw [h] at hc; cases hc.2.1), rfl, rfl⟩
theorem um_bind {t : List C} {v : Int} (hv : 0 ≤ v ∧ v ≤ 99999) (ht : trm t = true) (hn : ¬ varIn t v) : UM [] [vC v] t [⟨v, t⟩] 1 := by
  have hl := trm_len ht
  have hne : t ≠ [] := fun e => by rw [e] at hl; simp at hl
  refine .inl ⟨⟨subOk_nil, trm_vC hv, ht⟩, [vC v], t, some [⟨v, t⟩], [⟨v, t⟩], t, ⟨exp_nil _, exp_nil _, ⟨_, .bindL (now_nil (by simp)) (now_nil hne) rfl ?_ (fun h => hn (reach_nil h)) .done⟩, fun s' e => ?_⟩, ?_, ?_⟩
  · intro e
    cases t with
    | nil => cases e
    | cons c r => simp at e; exact hn ⟨c, by simp, by rw [e]; rfl, by rw [e]; rfl⟩
  · cases e
    have hg : getB [(⟨v, t⟩ : B)] v = t := by simp [getB]
    have h1 : Exp [(⟨v, t⟩ : B)] t.length t t := Exp.self (fun c hc hk => by
      simp only [getB]
      rw [if_neg]
      intro e
      exact hn ⟨c, hc, hk, e.symm⟩)
    have := Exp.sub (s := [(⟨v, t⟩ : B)]) (c := vC v) (r := []) (r' := []) rfl (by show getB _ v ≠ []; rw [hg]; exact hne) (by show Exp _ _ (getB _ v) t; rw [hg]; exact h1) .nil
    exact ⟨_, by simpa using this⟩
  · unfold uwO; rw [if_pos ⟨by simp, hl.2⟩]; simp [hl.2]
  · unfold uwH; rw [if_pos ⟨by simp, hl.2⟩]; simp [hl.2]
theorem um_ring {v : Int} (hv : 0 ≤ v ∧ v ≤ 99999) : UM [] [vC v] [fC, vC v] [] 2 := by
  refine .inl ⟨⟨subOk_nil, trm_vC hv, trm_fC hv⟩, [vC v], [fC, vC v], none, [], [], ⟨exp_nil _, exp_nil _, ⟨_, .ringL (now_nil (by simp)) (now_nil (by simp)) rfl ?_ (.here ⟨vC v, by simp, rfl, rfl⟩)⟩, fun s' e => by cases e⟩, ?_, ?_⟩
  · intro e
    simp [fC, vC] at e
  · unfold uwO; rw [if_pos ⟨by simp, by simp⟩]
  · unfold uwH; rw [if_pos ⟨by simp, by simp⟩]
theorem um_same {v : Int} (hv : 0 ≤ v ∧ v ≤ 99999) : UM [] [vC v] [vC v] [] 1 := by
  refine .inl ⟨⟨subOk_nil, trm_vC hv, trm_vC hv⟩, [vC v], [vC v], some [], [], [vC v], ⟨exp_nil _, exp_nil _, ⟨_, .args (xs := []) (ys := []) (now_nil (by simp)) (now_nil (by simp)) (fun k h => by simp at h) (fun k h => by simp at h) (by simp [ari, vC]) (by simp [ari, vC]) (by simpa using Uni.done)⟩, fun s' e => by cases e; exact exp_nil _⟩, ?_, ?_⟩
  · unfold uwO; rw [if_pos ⟨by simp, by simp⟩]; simp
  · unfold uwH; rw [if_pos ⟨by simp, by simp⟩]; simp

theorem implSubUnify_nil (ao : Option Addr) (cap : Nat) (bo : Option Addr) (cp : Nat) (a : List C) (co : Option Addr) (cq : Nat) (b : List C) (o : List B) (h : Int) (w : World) (hcp : a.length ≤ cp) (hcm : cp ≤ maxLen) (hcq : b.length ≤ cq) (hcn : cq ≤ maxLen) (hT : Row w bo a) (hFa : Fit a) (hT2 : Row w co b) (hFb : Fit b) (hM : UM [] a b o h) :
    Calls Try.prog 35 #[.slice ao 0 cap, .slice bo a.length cp, .slice co b.length cq] w (UOutM o h w) :=
  implSubUnify_any ao cap [] bo cp a co cq b o h w (by simp) (by simp [tot]) hcp hcm hcq hcn (.inl rfl) (fun x hx => by simp at hx) hT hFa hT2 hFb hM
set_option maxRecDepth 100000 in
set_option maxHeartbeats 4000000 in
theorem FnSubVar_walk (ao : Option Addr) (len cap : Nat) (z : Nat → Int) (w : World) (h : Bin w ao len cap z) :
    Calls Try.prog 12 #[.slice ao len cap] w fun e w' => e = .returned (.bool true) ∧ Below w.heap.size w w' := by
  have hmx : len ≤ 9223372036854775807 := by have := h.1; have := h.2.1; unfold maxLen at this; omega
  by_cases hbig : len ≤ 1048576
  · go_enter Try.func12, Try.ntmps12
    go_wp2_with fail
    refine (drawTrmOk_any ao len cap z _ h).mono ?_
    rintro e w1 ⟨v0, t, rfl, hO1, ht41, hDc, hb1⟩
    obtain ⟨hFit, hWf⟩ := dc_fit hDc
    have HF := hide hFit
    have HW := hide hWf
    obtain ⟨a1, c1, rfl, hc1, hc2⟩ := row_shape hO1
    have hml : t.length ≤ maxLen := by unfold maxLen; omega
    clear hDc hFit hWf
    go_wp2_with fail
    refine (specTrmOk_any a1 c1 t _ hml (OwnC.row hO1) (unhide HF)).mono ?_
    cases hok : trm t with
    | false =>
      rintro e w2 ⟨rfl, hb2⟩
      have hB2 := bstep hb1 hb2
      have hO2 := OwnC.below hO1 hb2
      have HU := hide (implSubUnify_nil (some ⟨w2.heap.size, 0, none⟩) 0 a1 c1 t a1 c1 t [] 4 (w2.alloc (.cells #[] 51)) hc1 hc2 hc1 hc2 (OwnC.row (OwnC.below hO2 (cell_below _ _))) (unhide HF) (OwnC.row (OwnC.below hO2 (cell_below _ _))) (unhide HF) (um_wrong hok))
      clear hok hO1 hO2
      go_wp2_with fail
      refine (unhide HU).mono ?_
      rintro e w3 ⟨u, rfl, _, hb3⟩
      have hB3 := bstep (bstep hB2 (cell_below _ _)) hb3
      have HC := hide (caOk_any w3)
      go_wp2_with fail
      refine (unhide HC).mono ?_
      rintro e w4 ⟨rfl, hb4⟩
      go_wp2
      go_ret
      exact ⟨rfl, bstep hB3 hb4⟩
    | true =>
      rintro e w2 ⟨rfl, hb2⟩
      have hB2 := bstep hb1 hb2
      have hO2 := OwnC.below hO1 hb2
      have hl := trm_len hok
      have HOK := hide hok
      clear hO1 hok
      go_wp2_with fail
      refine (TrmFree_any a1 c1 t _ (by omega) (OwnC.row hO2) (unhide HW)).mono ?_
      rintro e w3 ⟨fv, rfl, hI3, hb3⟩
      have hB3 := bstep hB2 hb3
      have hO3 := OwnC.below hO2 hb3
      have HRG : Hid (∀ u ∈ freeOf t, 0 ≤ u ∧ u ≤ 99999) := fun u hu => by
        obtain ⟨c, hc, hk, rfl⟩ := mem_freeV.1 hu
        exact okC_var ((trm_Trm (unhide HOK)).2 c hc) hk
      have HMF : Hid (∀ u, u ∈ freeOf t ↔ varIn t u) := fun u => mem_freeV
      have hfl : (freeOf t).length ≤ 1048576 := by
        have := nodup_len (freeOf_nodup t) (V := varsOf t) (fun x hx => mem_varsOf (mem_freeV.1 hx))
        simp [varsOf] at this
        omega
      obtain ⟨fa, fc, rfl, hfr⟩ := hI3.shape
      obtain ⟨fs, hfs⟩ : ∃ fs, fs = freeOf t := ⟨_, rfl⟩
      rw [← hfs] at hI3 HRG HMF hfl hfr ⊢
      clear hfs hO2 hb1 hb2 hb3
      go_wp2
      go_loopw [7, 8] (fun v i wr => ∃ (k : Nat) (x : Int), k ≤ fs.length ∧ i = .int .i64 k ∧ v = .int .i64 x ∧ (0 ≤ x ∧ x ≤ 99999) ∧ wr = w3) (fun _ i _ => fs.length - (intOf i).toNat)
      case atStart => exact ⟨0, 50, Nat.zero_le _, rfl, rfl, by omega, rfl⟩
      case round =>
        obtain ⟨k, x, hk, rfl, rfl, hx, hwr⟩ := hrel
        subst hwr
        by_cases hlt : k < fs.length
        · obtain ⟨fb, foff, rfl, hfA⟩ := hfr.resolve_left (fun e => by rw [e] at hlt; simp at hlt)
          have d0 := hfA k hlt
          have hu := unhide HRG _ (List.getElem_mem hlt)
          generalize fs[k] = u at d0 hu
          go_wp2
          go_roundw
          case rel => exact ⟨k + 1, _, by omega, by go_num, rfl, by omega, by first | trivial | rfl⟩
          case measure => simp [intOf]; omega
        · have hkl : k = fs.length := by omega
          subst hkl
          go_wp2
          go_loopw [9] (fun i wq => ∃ (k : Nat), k ≤ fs.length ∧ i = .int .i64 k ∧ (∀ j, (h : j < fs.length) → j < k → fs[j] ≠ x) ∧ wq = wr) (fun i _ => fs.length - (intOf i).toNat)
          case atStart => exact ⟨0, Nat.zero_le _, rfl, fun j _ h => absurd h (Nat.not_lt_zero _), rfl⟩
          case round =>
            rename_i wr0
            obtain ⟨k, hk, rfl, hne, hwr⟩ := hrel
            subst hwr
            by_cases hlt : k < fs.length
            · obtain ⟨fb, foff, rfl, hfA⟩ := hfr.resolve_left (fun e => by rw [e] at hlt; simp at hlt)
              have d0 := hfA k hlt
              have HST : Hid (fs[k] ≠ x → ∀ j, (h : j < fs.length) → j < k + 1 → fs[j] ≠ x) := fun h1 j hj hjk => by
                by_cases e : j = k
                · subst e; exact h1
                · exact hne j hj (by omega)
              generalize fs[k] = u at d0 HST
              by_cases hux : u = x
              · have hub : (u == x) = true := by simpa using hux
                have HC := hide (caOk_any wr)
                clear hne
                go_wp2_with fail
                refine (unhide HC).mono ?_
                rintro e w5 ⟨rfl, hb5⟩
                go_wp2
                go_ret
                exact ⟨rfl, bstep hB3 hb5⟩
              · have hub : (u == x) = false := by simpa using hux
                have HS2 := hide (unhide HST hux)
                clear hux hne
                go_wp2
                go_roundw
                case rel => exact ⟨k + 1, by omega, by go_num, unhide HS2, by first | trivial | rfl⟩
                case measure => simp [intOf]; omega
            · have hkl : k = fs.length := by omega
              subst hkl
              have hnv : ¬ varIn t x := fun hv => by
                obtain ⟨j, hj, e⟩ := List.getElem_of_mem ((unhide HMF x).2 hv)
                exact hne j hj hj e
              have hxr : 0 ≤ x ∧ x ≤ 99999 := hx
              have hfx : Fit [vC x] := fun c hc => by simp at hc; subst hc; show (0 : Nat) ≤ maxLen; exact Nat.zero_le _
              have hff : Fit [fC, vC x] := fun c hc => by
                simp at hc
                rcases hc with rfl | rfl
                · simp [fC, maxLen]; decide
                · show (0 : Nat) ≤ maxLen; exact Nat.zero_le _
              have oX := ownC_one1 wr (vC x)
              have HU1 := hide (implSubUnify_nil (some ⟨wr.heap.size + 1, 0, none⟩) 0 (some ⟨wr.heap.size, 0, none⟩) 1 [vC x] a1 c1 t [⟨x, t⟩] 1 ((wr.alloc (.cells #[.int .i64 1, .int .i64 x, .string ⟨#[]⟩] 36)).alloc (.cells #[] 51)) (by simp) (by simp [maxLen]) hc1 hc2 (OwnC.row (OwnC.below oX (cell_below _ _))) hfx (OwnC.row (OwnC.below (OwnC.below hO3 (cell_below _ _)) (cell_below _ _))) (unhide HF) (um_bind hxr (unhide HOK) hnv))
              have HR := hide (um_ring hxr)
              have HS := hide (um_same hxr)
              clear hne hnv hI3 hfr HRG HMF
              go_wp2_with fail
              refine (unhide HU1).mono ?_
              clear HU1
              rintro e w4 ⟨u4, rfl, hO4, hb4⟩
              have hbx : Below wr.heap.size wr ((wr.alloc (.cells #[.int .i64 1, .int .i64 x, .string ⟨#[]⟩] 36)).alloc (.cells #[] 51)) := bstep (cell_below _ _) (cell_below _ _)
              have hb34 := bstep hbx hb4
              have hB4 := bstep hB3 hb34
              have oX4 : OwnC w4 wr.heap.size (.slice (some ⟨wr.heap.size, 0, none⟩) 1 1) [vC x] := OwnC.below (OwnC.below oX (cell_below _ _)) hb4
              have hO34 := OwnC.below hO3 hb34
              obtain ⟨ua, uc, rfl, _, _, hru⟩ := hO4.shape
              have oF := ownC_two1 w4 fC (vC x)
              have HU2 := hide (implSubUnify_nil (some ⟨w4.heap.size + 1, 0, none⟩) 0 (some ⟨wr.heap.size, 0, none⟩) 1 [vC x] (some ⟨w4.heap.size, 0, none⟩) 2 [fC, vC x] [] 2 ((w4.alloc (.cells #[.int .i64 3, .int .i64 1, .string ⟨#[102]⟩, .int .i64 1, .int .i64 x, .string ⟨#[]⟩] 36)).alloc (.cells #[] 51)) (by simp) (by simp [maxLen]) (by simp) (by simp [maxLen]) (OwnC.row (OwnC.below (OwnC.below oX4 (cell_below _ _)) (cell_below _ _))) hfx (OwnC.row (OwnC.below oF (cell_below _ _))) hff (unhide HR))
              simp only [List.length_cons, List.length_nil, Nat.zero_add]
              go_wp2_with fail
              refine (unhide HU2).mono ?_
              clear HU2
              rintro e w7 ⟨u7, rfl, _, hb7⟩
              have hb47 : Below w4.heap.size w4 w7 := bstep (bstep (cell_below _ _) (cell_below _ _)) hb7
              have oX7 := OwnC.below oX4 hb47
              have HU3 := hide (implSubUnify_nil (some ⟨w7.heap.size, 0, none⟩) 0 (some ⟨wr.heap.size, 0, none⟩) 1 [vC x] (some ⟨wr.heap.size, 0, none⟩) 1 [vC x] [] 1 (w7.alloc (.cells #[] 51)) (by simp) (by simp [maxLen]) (by simp) (by simp [maxLen]) (OwnC.row (OwnC.below oX7 (cell_below _ _))) hfx (OwnC.row (OwnC.below oX7 (cell_below _ _))) hfx (unhide HS))
              go_wp2_with fail
              refine (unhide HU3).mono ?_
              clear HU3
              rintro e w9 ⟨u9, rfl, hO9, hb9⟩
              obtain ⟨na, nc, rfl, _⟩ := hO9.shape
              have hb49 : Below w4.heap.size w4 w9 := bstep hb47 (bstep (cell_below _ _) hb9)
              have hB9 := bstep hB4 hb49
              have hO39 := OwnC.below hO34 hb49
              have hru9 := hru.below hb49
              simp only [List.length_nil]
              obtain ⟨sb, soff, rfl, hsA⟩ := hru9.resolve_left (by simp)
              obtain ⟨s0, ta, tc, s1, hs2, hs3, hs4⟩ := hsA 0 (by simp)
              simp only [List.getElem_cons_zero, Nat.zero_mul, Nat.add_zero] at s0 s1 hs2 hs4
              have HCA := hide (caTerm_any ta a1 tc c1 t t w9 hml hs4 (OwnC.row hO39))
              rw [sameS_yes rfl] at HCA
              have hxx : (x == x) = true := by simp
              obtain ⟨tb, toff, rfl, htA⟩ := (OwnC.row hO39).resolve_left (fun e => by rw [e] at hl; simp at hl)
              obtain ⟨k0, k1, k2⟩ := htA 0 (by omega)
              simp only [Nat.zero_mul, Nat.add_zero] at k0
              generalize (t[0]'(by omega)).k = kk at k0
              clear hO4 hO9 hru hru9 hsA htA hO3 hO34 hO39 oX oX4 oX7 oF hs4 hb4 hb7 hb9 hb34 hb47 hb49 hB4 hbx k1 k2
              by_cases h1 : t.length = 1
              · have h1b : ((t.length : Int) == 1) = true := by rw [h1]; rfl
                by_cases hkk : kk = 1
                · have hkb : (kk == 1) = true := by simpa using hkk
                  clear h1 hkk
                  go_wp2
                  go_ret
                  exact ⟨rfl, hB9⟩
                · have hkb : (kk == 1) = false := by simpa using hkk
                  clear h1 hkk
                  go_wp2_with fail
                  refine (unhide HCA).mono ?_
                  rintro e w10 ⟨rfl, hb10⟩
                  go_wp2
                  go_ret
                  exact ⟨rfl, bstep hB9 hb10⟩
              · have h1b : ((t.length : Int) == 1) = false := by simp; omega
                clear h1
                go_wp2_with fail
                refine (unhide HCA).mono ?_
                rintro e w10 ⟨rfl, hb10⟩
                go_wp2
                go_ret
                exact ⟨rfl, bstep hB9 hb10⟩
  · have hbb : decide ((len : Int) > 1048576) = true := by simp; omega
    go_enter Try.func12, Try.ntmps12
    go_wp2
    go_ret
    exact ⟨rfl, Below.refl _ _⟩
end Go.Proofs.Ytcimlcmhodpalaa
