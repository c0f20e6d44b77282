import Derived.Test.YtjjpmlcaapedhaaDoorQTX3
import Derived.Test.YtjjpmlcaapedhaaDoorQTX7
import Derived.Test.YtjjpmlcaapedhaaDoorQW6W7W18T5
import Derived.Test.YtjjpmlcaapedhaaDoorQW5
import Derived.Test.YtjjpmlcaapedhaaDoorQRR7
import Derived.Test.YtjjpmlcaapedhaaDoorQD6L1TX2
import Derived.Test.YtjjpmlcaapedhaaDoorQBT1Plain4
/- The specification's TrmText at any places; the walk of FnExactTrmText. -/
namespace Go.Proofs.YtjjpmlcaapedhaaDoor
open Go.RowKit
set_option linter.unusedVariables false
set_option linter.unusedSimpArgs false

set_option maxRecDepth 100000 in
set_option maxHeartbeats 1000000 in
theorem specTrmText_any (ao : Option Addr) (cap : Nat) (t : List C) (w : World) (hm : t.length ≤ maxLen) (hA : Row w ao t) (hF : Fit t) :
    Calls Tryd.prog 10 #[.slice ao t.length cap] w fun e w' => e = .returned (.string (textT t)) ∧ Below w.heap.size w w' := by
  cases ht : trm t with
  | false =>
    have H1 := hide (specTrmOk_any ao cap t w hm hA hF)
    rw [ht] at H1
    have HE := hide (show textT t = ByteArray.empty from by unfold textT; rw [ht]; rfl)
    clear hA hF
    go_enter Tryd.func10, Tryd.ntmps10
    go_wp2_with fail
    refine (unhide H1).mono ?_
    rintro e w1 ⟨rfl, hb1⟩
    go_wp2
    go_ret
    exact ⟨by rw [unhide HE]; rfl, hb1⟩
  | true =>
    have he : textT t = textOf wordB t := by unfold textT; rw [ht]; rfl
    rw [he]
    rcases hA with rfl | ⟨b, off, rfl, hA⟩
    · have := trm_len ht; simp at this
    · exact specTrmText_some b off cap t w hA ht hm

theorem tenB {w w' : World} (h : TenT w) (hb : Below w.heap.size w w') : TenT w' := h.below hb

end Go.Proofs.YtjjpmlcaapedhaaDoor

/- The walk of FnTrmTextFree. -/
namespace Go.Proofs.YtjjpmlcaapedhaaDoor
open Go.RowKit
set_option linter.unusedVariables false
set_option linter.unusedSimpArgs false

theorem own_shape4 {w : World} {base : Nat} {v : Value} {t : List C} (h : OwnC w base v t) : ∃ ao cap, v = .slice ao t.length cap ∧ t.length ≤ cap ∧ cap ≤ maxLen ∧ Row w ao t := by
  obtain ⟨ao, cap, e, hR⟩ := h.shape
  refine ⟨ao, cap, e, ?_, ?_, hR⟩
  · rcases h.2 with ⟨e1, h2⟩ | ⟨g, cap', cur, e1, _, _, h3, h4, _⟩
    · omega
    · rw [e] at e1; cases e1; exact h3
  · rcases h.2 with ⟨e1, h2⟩ | ⟨g, cap', cur, e1, _, _, h3, h4, _⟩
    · rw [e] at e1; injection e1 with _ _ e3; unfold maxLen; omega
    · rw [e] at e1; cases e1; exact h4

def DrewOne (w : World) (e : Ending) (w' : World) : Prop := ∃ v t, e = .returned v ∧ OwnC w' w.heap.size v t ∧ t.length ≤ 41 ∧ (∀ c ∈ t, Dc c) ∧ Below w.heap.size w w'
set_option maxRecDepth 100000 in
set_option maxHeartbeats 1000000 in
theorem drawTrmText_any (ao : Option Addr) (len cap : Nat) (z : Nat → Int) (w : World) (h : Bin w ao len cap z) :
    Calls Tryd.prog 5 #[.slice ao len cap] w (DrewOne w) := by
  go_enter Tryd.func5, Tryd.ntmps5
  go_wp2_with fail
  refine (open_any ao len cap z _ h).mono ?_
  rintro e w1 ⟨rfl, hR1, hb1⟩
  have hl1 := hR1.lt
  go_wp2_with fail
  refine (termOr_any w.heap.size 0 6 _ (by omega) (by omega) (by omega) hR1).mono ?_
  rintro e w2 ⟨v2, t, p2, rfl, hO2, _, ht, hD, hR2, hp2, hG2⟩
  have hb2 : Below w.heap.size w w2 := hb1.grown hG2 (by omega) (fun k e => by cases e; exact Nat.le_refl _)
  have HF : Hid (DrewOne w (.returned v2) w2) := ⟨v2, t, rfl, OwnC.base hO2 hb1.size, ht, hD, hb2⟩
  clear hD hG2 hR1 h hb1 hO2 hR2 hb2
  go_wp2
  go_ret
  exact unhide HF

theorem ends_ari : ∀ (t u : List C) (m : Int), t.map ari = u.map ari → ends m t = ends m u
  | [], [], _, _ => rfl
  | [], _ :: _, _, h => by simp at h
  | _ :: _, [], _, h => by simp at h
  | c :: t, d :: u, m, h => by
      simp only [List.map_cons, List.cons.injEq] at h
      simp only [ends, h.1, ends_ari t u _ h.2]
theorem trm_set {t : List C} {k : Nat} (h : trm t = true) (hk : k < t.length) (h1 : t[k].k = 1) (h2 : t[k].n < 99999) : trm (t.set k ⟨t[k].k, t[k].n + 1, t[k].s⟩) = true ∧ t.set k ⟨t[k].k, t[k].n + 1, t[k].s⟩ ≠ t := by
  have hh := (trm_iff t).1 h
  have hok := hh.2.2.1 t[k] (List.getElem_mem hk)
  refine ⟨(trm_iff _).2 ⟨by rw [List.length_set]; exact hh.1, by rw [List.length_set]; exact hh.2.1, fun c hc => ?_, ?_⟩, fun e => ?_⟩
  · rcases List.mem_or_eq_of_mem_set hc with hc | rfl
    · exact hh.2.2.1 c hc
    · unfold okC at hok ⊢
      simp only [h1, if_true] at hok ⊢
      simp at hok ⊢
      exact ⟨⟨by omega, by omega⟩, hok.2⟩
  · rw [List.length_set, ← hh.2.2.2]
    refine ends_ari _ _ _ ?_
    rw [List.map_set]
    have : ari ⟨t[k].k, t[k].n + 1, t[k].s⟩ = ari t[k] := by unfold ari; simp only [h1]; rfl
    rw [this]
    refine List.ext_getElem (by simp) (fun i i1 i2 => ?_)
    rw [List.getElem_set]
    split
    · rename_i e; subst e; simp
    · rfl
  · have h3 : (t.set k ⟨t[k].k, t[k].n + 1, t[k].s⟩)[k]'(by rw [List.length_set]; exact hk) = t[k] := by simp only [e]
    rw [List.getElem_set_self] at h3
    have h4 := congrArg C.n h3
    simp at h4
    omega

/-- No space stands in a text. -/
theorem word_space {c : C} (h : okC c = true) : (32 : UInt8) ∉ bl (wordB c) := by
  intro hm
  have hd : ∀ n : Nat, n < 100000 → (32 : UInt8) ∉ Go.Lib.decDigits n := fun n hn hm => by
    have := digits_dig 4 n (by simpa using hn) 32 hm
    simp [dig] at this
  obtain ⟨h0, h1, h2, _⟩ := okC_parts h
  have hnum : (32 : UInt8) ∉ bl (numB c.n) := fun hm => by
    rw [bl_num] at hm
    by_cases hn : c.n < 0
    · rw [itoa_neg hn, List.mem_cons] at hm
      rcases hm with hm | hm
      · exact absurd hm (by decide)
      · exact hd _ (by omega) hm
    · rw [itoa_pos (by omega)] at hm
      exact hd _ (by omega) hm
  unfold wordB at hm
  split at hm
  · rw [bl_app, List.mem_append] at hm
    rcases hm with hm | hm
    · exact absurd hm (by decide)
    · exact hnum hm
  · split at hm
    · exact hnum hm
    · rename_i k1 k2
      have k3 : c.k = 3 := by omega
      unfold okC at h
      rw [if_neg k1, if_neg k2, if_pos k3] at h
      simp at h
      have hs := h.2
      unfold nameB at hs
      simp only [Bool.and_eq_true, decide_eq_true_eq] at hs
      have := letters_sml hs.2 32 hm
      simp [sml, small] at this
theorem join_space : ∀ (us : List ByteArray), (∀ u ∈ us, (32 : UInt8) ∉ bl u) → (32 : UInt8) ∉ bl (joinB us)
  | [], _ => by simp [joinB, bl]
  | [u], h => by simpa [joinB] using h u (by simp)
  | u :: v :: r, h => by
      simp only [joinB, bl_app, List.mem_append, not_or]
      exact ⟨⟨h u (by simp), by decide⟩, join_space (v :: r) (fun x hx => h x (by simp [List.mem_cons.1 hx]))⟩
theorem txt_space {t : List C} {u : ByteArray} (h : Txt wordB t u) : (∀ c ∈ t, okC c = true) → (32 : UInt8) ∉ bl u := by
  induction h with
  | leaf h0 => exact fun hok => word_space (hok _ (by simp))
  | @node c ks us hne hl hu hk ih =>
    intro hok
    simp only [bl_app, List.mem_append, not_or]
    refine ⟨⟨⟨word_space (hok c (by simp)), by decide⟩, join_space us (fun u hu' => ?_)⟩, by decide⟩
    obtain ⟨i, hi, rfl⟩ := List.mem_iff_getElem.1 hu'
    exact ih i (by omega) hi (fun x hx => hok x (List.mem_cons_of_mem _ (List.mem_flatten.2 ⟨_, List.getElem_mem (by omega), hx⟩)))
theorem rdX_space {l : List UInt8} (h : (32 : UInt8) ∈ l) : rdX l = none := by
  cases hr : rdX l with
  | none => rfl
  | some t =>
    obtain ⟨ht, he⟩ := rdX_back hr
    exact absurd (by rw [he]; exact h) (txt_space (textT_txt ht) ((trm_iff t).1 ht).2.2.1)
theorem textT_len {t : List C} (ht : trm t = true) : (textT t).size ≤ 440 := by
  have h := (trm_iff t).1 ht
  have := txt_size (textT_txt ht) h.2.2.1
  omega
theorem textT_no {t : List C} (ht : trm t = false) : textT t = ByteArray.empty := by unfold textT; rw [ht]; rfl

end Go.Proofs.YtjjpmlcaapedhaaDoor

/- What is drawn for texts of terms. -/
namespace Go.Proofs.YtjjpmlcaapedhaaDoor
open Go.RowKit
set_option linter.unusedVariables false
set_option linter.unusedSimpArgs false

def TextDrew (w : World) (n : Nat) (e : Ending) (w' : World) : Prop := ∃ l : List UInt8, e = .returned (.string (mkS l)) ∧ l.length ≤ n ∧ Below w.heap.size w w'
theorem textDrew_mk {w w' : World} {n : Nat} {s : ByteArray} (h : s.size ≤ n) (hb : Below w.heap.size w w') : TextDrew w n (.returned (.string s)) w' :=
  ⟨bl s, by rw [mkS_bl], by rw [bl_size]; exact h, hb⟩
theorem textT_most (t : List C) : (textT t).size ≤ 440 := by
  by_cases h : trm t = true
  · exact textT_len h
  · have : textT t = ByteArray.empty := by
      unfold textT
      cases ht : trm t with
      | true => exact absurd ht h
      | false => rfl
    rw [this]; simp

def seventeen : List ByteArray := [⟨#[]⟩, ⟨#[102, 40]⟩, ⟨#[102, 40, 41]⟩, ⟨#[102, 40, 97]⟩, ⟨#[102, 40, 97, 44, 98, 44, 99, 44, 100, 41]⟩, ⟨#[88]⟩, ⟨#[88, 48, 49]⟩, ⟨#[45, 48]⟩, ⟨#[49, 48, 48, 48, 48]⟩, ⟨#[88, 57, 57, 57, 57, 57]⟩, ⟨#[88, 49, 48, 48, 48, 48, 48]⟩, ⟨#[102, 40, 97, 41, 41]⟩, ⟨#[44, 97]⟩, ⟨#[97, 44, 98]⟩, ⟨#[116, 111, 111, 108, 111, 110, 103, 110, 97, 109, 101]⟩, ⟨#[65]⟩, ⟨#[102, 40, 97, 41, 40, 98, 41]⟩]
theorem lit17 (j : Nat) (hj : j < 17) : ∃ x : ByteArray, x.size ≤ 11 ∧ ∀ (W w2 : World) (R : Nat) (o : Obj), o = .cells (seventeen.map Value.string).toArray 9 → R < W.heap.size → (W.alloc o).grownBy w2 (some R) → w2.cell? ⟨W.heap.size, j, none⟩ = some (.string x) := by
  have hb : ∀ x ∈ seventeen, x.size ≤ 11 := by decide
  have hl : seventeen.length = 17 := rfl
  have hx := hb _ (List.getElem_mem (l := seventeen) (n := j) (by rw [hl]; exact hj))
  exact ⟨seventeen[j]'(by rw [hl]; exact hj), hx, fun W w2 R o ho hR hg => by subst ho; exact pick_lits hR hg (by rw [hl]; exact hj)⟩

set_option maxRecDepth 100000 in
set_option maxHeartbeats 2000000 in
theorem drawTrmRead_any (ao : Option Addr) (len cap : Nat) (z : Nat → Int) (w : World) (h : Bin w ao len cap z) :
    Calls Tryd.prog 6 #[.slice ao len cap] w (TextDrew w 441) := by
  go_enter Tryd.func6, Tryd.ntmps6
  go_wp2_with fail
  refine (open_any ao len cap z _ h).mono ?_
  rintro e w1 ⟨rfl, hR1, hb1⟩
  have hl1 := hR1.lt
  go_wp2_with fail
  refine (termOr_any w.heap.size 0 99999 _ (by omega) (by omega) (by omega) hR1).mono ?_
  rintro e w2 ⟨v2, t, p2, rfl, hO2, _, ht, hD, hR2, hp2, hG2⟩
  have hb2 : Below w.heap.size w w2 := hb1.grown hG2 (by omega) (fun k e => by cases e; exact Nat.le_refl _)
  obtain ⟨ao2, cap2, rfl, hcap2, hcm2, hr2⟩ := own_shape4 hO2
  obtain ⟨hF, _⟩ := dc_fit hD
  have HX := hide (specTrmText_any ao2 cap2 t w2 (by unfold maxLen; omega) hr2 hF)
  have hsz := textT_most t
  obtain ⟨s, hs⟩ : ∃ s, s = textT t := ⟨_, rfl⟩
  rw [← hs] at HX hsz
  have hR2' := hR2
  clear hD hG2 hR1 h hb1 hO2 hr2 hF hs hcap2 hcm2
  go_wp2_with fail
  refine (unhide HX).mono ?_
  rintro e w3 ⟨rfl, hb3⟩
  have hB3 := bstep hb2 hb3
  have hR3 : Rd w3 w.heap.size (0 + p2) := by
    have := hR2'
    rw [Nat.zero_add]
    exact this.keep (fun k hk => hb3.block k (by have := hR2'.lt; omega))
  clear HX
  go_wp2_with fail
  refine (pick_any w.heap.size (0 + p2) 4 _ (by omega) (by omega) (by omega) hR3).mono ?_
  rintro e w4 ⟨r4, rfl, h40, h41, hR4, hG4⟩
  have hB4 : Below w.heap.size w w4 := hB3.grown hG4 hB3.size (fun k e => by cases e; exact Nat.le_refl _)
  clear hR2' hR2 hR3 hG4
  rcases (show r4 = 0 ∨ r4 = 1 ∨ r4 = 2 ∨ r4 = 3 by omega) with rfl | rfl | rfl | rfl
  · go_wp2_with fail
    refine (pick_any w.heap.size (0 + p2 + 1) 17 _ (by omega) (by omega) (by omega) (hR4.alloc _)).mono ?_
    rintro e w5 ⟨r5, rfl, h50, h51, hR5, hG5⟩
    obtain ⟨j, rfl⟩ := Int.eq_ofNat_of_zero_le h50
    obtain ⟨x, hx, hlit⟩ := lit17 j (by omega)
    have hc := hlit w4 w5 w.heap.size _ rfl hR4.lt hG5
    have hB5 : Below w.heap.size w w5 := (bstep hB4 (cell_below _ _)).grown hG5 (by have := hB4.size; simp; omega) (fun k e => by cases e; exact Nat.le_refl _)
    have FIN := hide (textDrew_mk (n := 441) (show x.size ≤ 441 by omega) hB5)
    clear hlit hG5 hR5 hR4 hB5
    go_wp2
    go_ret
    exact unhide FIN
  · go_wp2_with fail
    refine (l20Bent_any w.heap.size (0 + p2 + 1) s _ (by omega) (by omega) hR4).mono ?_
    rintro e w5 ⟨u, p5, rfl, hu, _, _, hR5, hG5⟩
    have hB5 : Below w.heap.size w w5 := hB4.grown hG5 hB4.size (fun k e => by cases e; exact Nat.le_refl _)
    have FIN := hide (textDrew_mk (n := 441) (show u.size ≤ 441 by omega) hB5)
    clear hG5 hR5 hR4 hB5
    go_wp2
    go_ret
    exact unhide FIN
  · have FIN := hide (textDrew_mk (n := 441) (show s.size ≤ 441 by omega) hB4)
    clear hR4 hB4
    go_wp2
    go_ret
    exact unhide FIN
  · have FIN := hide (textDrew_mk (n := 441) (show s.size ≤ 441 by omega) hB4)
    clear hR4 hB4
    go_wp2
    go_ret
    exact unhide FIN
end Go.Proofs.YtjjpmlcaapedhaaDoor
