/- The walk of FnTrmBytes. -/
import Derived.Test.YtjinbinnjpjniaaDoorQZX1
import Derived.Test.YtjinbinnjpjniaaDoorQZB1
import Derived.Test.YtjinbinnjpjniaaDoorQYT2
import Derived.Test.YtjinbinnjpjniaaDoorQW18L1
namespace Go.Proofs.YtjinbinnjpjniaaDoor
open Go.RowKit
set_option linter.unusedVariables false
set_option linter.unusedSimpArgs false

theorem OwnY.shape2 {w : World} {base : Nat} {v : Value} {z : List Int} (h : OwnY w base v z) : ∃ ao cap, v = .slice ao z.length cap ∧ z.length ≤ cap := by
  rcases h.2 with ⟨e, hn⟩ | ⟨g, cap, cur, e, hb, hg, hc, hm, _⟩
  · exact ⟨none, 0, by rw [e, hn], by omega⟩
  · exact ⟨_, cap, e, hc⟩
theorem bin_below {w w' : World} {a : Option Addr} {len cap : Nat} {z : Nat → Int} (h : Bin w a len cap z) (hb : Below w.heap.size w w') : Bin w' a len cap z := by
  obtain ⟨h1, h2, h3, h4⟩ := h
  refine ⟨h1, h2, h3, ?_⟩
  rcases h4 with h4 | ⟨b, off, e, h4⟩
  · exact .inl h4
  · exact .inr ⟨b, off, e, fun i hi => (hb.cell (p := ⟨b, off + i, none⟩) (World.block_lt_of_cell? w ⟨b, _, none⟩ (h4 i hi))).trans (h4 i hi)⟩
theorem fit_trm {t : List C} (h : trm t = true) : Fit t := fun c hc => by
  have := (okC_parts (((trm_iff t).1 h).2.2.1 c hc)).2.2.2
  unfold maxLen
  omega
def DrewBt (w : World) (e : Ending) (w' : World) : Prop := ∃ v t, e = .returned v ∧ OwnC w' w.heap.size v t ∧ t.length ≤ 41 ∧ Fit t ∧ Below w.heap.size w w'

set_option maxRecDepth 100000 in
set_option maxHeartbeats 1000000 in
theorem drawTrmBytes_any (ao : Option Addr) (len cap : Nat) (z : Nat → Int) (w : World) (h : Bin w ao len cap z) :
    Calls Tryd.prog 6 #[.slice ao len cap] w (DrewBt w) := by
  go_enter Tryd.func6, Tryd.ntmps6
  go_wp2_with fail
  refine (open_any ao len cap z _ h).mono ?_
  rintro e w1 ⟨rfl, hR1, hb1⟩
  have hl1 := hR1.lt
  go_wp2_with fail
  refine (termOr_any w.heap.size 0 5 _ (by omega) (by omega) (by omega) hR1).mono ?_
  rintro e w2 ⟨v2, t, p2, rfl, hO2, _, ht, hD, hR2, hp2, hG2⟩
  obtain ⟨hFit, hWf⟩ := dc_fit hD
  have hb2 : Below w.heap.size w w2 := hb1.grown hG2 (by omega) (fun k e => by cases e; exact Nat.le_refl _)
  have HF : Hid (DrewBt w (.returned v2) w2) := ⟨v2, t, rfl, own_lo hO2 (fun j e => by have := (World.ownsRow.lt hO2 j e).1; have := hb1.size; omega), ht, hFit, hb2⟩
  clear hD hWf hG2 hR1 h hb1 hO2 hR2 hb2 hFit
  go_wp2
  go_ret
  exact unhide HF

set_option maxRecDepth 100000 in
set_option maxHeartbeats 8000000 in
theorem FnTrmBytes_walk (ao bo : Option Addr) (la lb ca cb : Nat) (zf zg : Nat → Int) (w : World) (ha : Bin w ao la ca zf) (hb : Bin w bo lb cb zg) (hG : Gl w) :
    Calls Tryd.prog 3 #[.slice ao la ca, .slice bo lb cb] w fun e w' => e = .returned (.bool true) ∧ Below w.heap.size w w' := by
  have hma : la ≤ 9223372036854775807 := by have := ha.1; have := ha.2.1; unfold maxLen at this; omega
  have hmb : lb ≤ 9223372036854775807 := by have := hb.1; have := hb.2.1; unfold maxLen at this; omega
  by_cases hbig : la ≤ 1048576 ∧ lb ≤ 1048576
  · have HDA := hide (drawTrmBytes_any ao la ca zf w ha)
    have HDB := hide (fun (W : World) (hW : Below w.heap.size w W) => drawTrmTake_any bo lb cb zg W (bin_below hb hW))
    have HG := hide (fun (W : World) (hW : Below w.heap.size w W) => hG.below hW)
    obtain ⟨hba, hbb⟩ := hbig
    clear ha hb hG
    go_enter Tryd.func3, Tryd.ntmps3
    go_wp2_with fail
    refine (unhide HDA).mono ?_
    rintro e w1 ⟨v5, t, rfl, hO5, ht, hF, hB1⟩
    go_wp2_with fail
    refine (unhide HDB w1 hB1).mono ?_
    rintro e w2 ⟨v6, y, rfl, hO6, hy, hyl, hb2⟩
    have hB2 := bstep hB1 hb2
    have hO5 := hO5.below hb2
    obtain ⟨a5, c5, rfl, hr5⟩ := hO5.shape
    obtain ⟨a6, c6, rfl, hc6⟩ := hO6.shape2
    have hr6 := hO6.row
    have htm : t.length ≤ maxLen := by unfold maxLen; omega
    have hyx : y.length ≤ 1048576 := by omega
    have hym : y.length ≤ maxLen := by unfold maxLen; omega
    have HFt := hide hF
    have HY := hide hy
    have HI5 := hide (fun (W : World) (h2 : Below w2.heap.size w2 W) => implTrmBytes_any a5 c5 t W htm (hr5.below h2) hF)
    have HS5 := hide (fun (W : World) (h2 : Below w2.heap.size w2 W) => specTrmBytes_any a5 c5 t W htm (hr5.below h2) hF)
    have HI6 := hide (fun (W : World) (h2 : Below w2.heap.size w2 W) => implTrmTake_any a6 c6 y W (hr6.below h2) hy (unhide HG W (bstep hB2 h2)) hyx hc6)
    have HS6 := hide (fun (W : World) (h2 : Below w2.heap.size w2 W) => specTrmTake_any a6 c6 y W (hr6.below h2) hy hyx hc6)
    have hzl : (encT t).length ≤ 1048576 := Nat.le_trans (encT_length t) (by omega)
    have hzy : ByL (encT t) := encT_by t
    obtain ⟨z, hz⟩ : ∃ z, z = encT t := ⟨_, rfl⟩
    have HZ := hide hz.symm
    have HZy := hide (show ByL z from by rw [hz]; exact hzy)
    rw [← hz] at hzl HI5 HS5
    obtain ⟨t1, ht1⟩ : ∃ t1, t1 = (rdAll y).getD [] := ⟨_, rfl⟩
    obtain ⟨f, hf⟩ : ∃ f, f = (rdAll y).isSome := ⟨_, rfl⟩
    have HT := hide (show ∀ (W : World) (e : Ending) (W' : World), TakeOut W y e W' → ∃ v, e = .returned (.tuple #[v, .bool f]) ∧ OwnC W' W.heap.size v t1 ∧ Below W.heap.size W W' from fun W e W' h => by rw [hf, ht1]; exact h)
    have htl1 : t1.length ≤ 40 := by rw [ht1]; exact rdAll_len y
    have HR := hide (show f = true → trm t1 = true ∧ encT t1 = y ∧ Fit t1 from fun h => by
      rw [hf] at h
      obtain ⟨x, hx⟩ := Option.isSome_iff_exists.1 h
      have e : t1 = x := by rw [ht1, hx]; rfl
      have hh := encT_rdAll hy hx
      rw [e]
      exact ⟨hh.2, hh.1, fit_trm hh.2⟩)
    have htm1 : t1.length ≤ maxLen := by unfold maxLen; omega
    have hzm : z.length ≤ maxLen := by unfold maxLen; omega
    have hff : (f != f) = false := by simp
    clear hz hzy ht1 hf hF hy hO5 hO6 hb2 HDA HDB
    go_wp2_with fail
    refine (unhide HI5 w2 (Below.refl _ _)).mono ?_
    rintro e w3 ⟨v7, rfl, hO7, hb3⟩
    have hB3 := bstep hB2 hb3
    obtain ⟨a7, c7, rfl, hc7⟩ := hO7.shape2
    have hr7 := hO7.row
    clear hO7
    go_wp2_with fail
    refine (unhide HI6 w3 hb3).mono ?_
    intro e w4 hTk
    obtain ⟨v8, rfl, hO8, hb4⟩ := unhide HT _ _ _ hTk
    clear hTk
    have hB4 := bstep hB3 hb4
    have h24 := bstep hb3 hb4
    obtain ⟨a8, c8, rfl, hr8⟩ := hO8.shape
    clear hO8
    go_wp2_with fail
    refine (unhide HS6 w4 h24).mono ?_
    intro e w5 hTk
    obtain ⟨v10, rfl, hO10, hb5⟩ := unhide HT _ _ _ hTk
    clear hTk
    have hB5 := bstep hB4 hb5
    have h25 := bstep h24 hb5
    have h75 := bstep hb4 hb5
    obtain ⟨a10, c10, rfl, hr10⟩ := hO10.shape
    clear hO10
    go_wp2_with fail
    refine (unhide HS5 w5 h25).mono ?_
    rintro e w6 ⟨v40, rfl, hO40, hb6⟩
    have hB6 := bstep hB5 hb6
    have h26 := bstep h25 hb6
    have h76 := bstep h75 hb6
    obtain ⟨a40, c40, rfl, _⟩ := hO40.shape2
    have hr40 := hO40.row
    clear hO40
    go_wp2_with fail
    refine (caBytes_any a7 a40 c7 c40 z z w6 hzm (hr7.below h76) hr40).mono ?_
    rw [decide_eq_yes rfl]
    rintro e w7 ⟨rfl, hb7⟩
    have hB7 := bstep hB6 hb7
    have h27 := bstep h26 hb7
    have h77 := bstep h76 hb7
    go_wp2_with fail
    refine (caTerm_any a8 a10 c8 c10 t1 t1 w7 htm1 (hr8.below (bstep (bstep hb5 hb6) hb7)) (hr10.below (bstep hb6 hb7))).mono ?_
    rw [sameS_yes rfl]
    rintro e w8 ⟨rfl, hb8⟩
    have hB8 := bstep hB7 hb8
    have h28 := bstep h27 hb8
    have h78 := bstep h77 hb8
    have hr8' := hr8.below (bstep (bstep (bstep hb5 hb6) hb7) hb8)
    clear hr8 hr10 hr40 hb3 hb4 hb5 hb6 hb7 hb8 HI5 HS5 HI6 HS6 HT
    cases f with
    | true =>
      obtain ⟨ht1, he1, hF1⟩ := unhide HR rfl
      have HO8 := hide (TrmOk_any a8 c8 t1 w8 htm1 hr8' hF1)
      rw [ht1] at HO8
      have HI8 := hide (fun (W : World) (h2 : Below w8.heap.size w8 W) => implTrmBytes_any a8 c8 t1 W htm1 (hr8'.below h2) hF1)
      rw [he1] at HI8
      clear ht1 he1 hF1 HR
      go_wp2_with fail
      refine (unhide HO8).mono ?_
      rintro e w9 ⟨rfl, hb9⟩
      have hB9 := bstep hB8 hb9
      have h29 := bstep h28 hb9
      have h79 := bstep h78 hb9
      go_wp2_with fail
      refine (unhide HI8 w9 hb9).mono ?_
      rintro e w10 ⟨v61, rfl, hO61, hb10⟩
      have hB10 := bstep hB9 hb10
      have h210 := bstep h29 hb10
      have h710 := bstep h79 hb10
      obtain ⟨a61, c61, rfl, _⟩ := hO61.shape2
      have hr61 := hO61.row
      clear hO61
      go_wp2_with fail
      refine (caBytes_any a61 a6 c61 c6 y y w10 hym hr61 (hr6.below h210)).mono ?_
      rw [decide_eq_yes rfl]
      rintro e w11 ⟨rfl, hb11⟩
      have hB11 := bstep hB10 hb11
      have h211 := bstep h210 hb11
      have h711 := bstep h710 hb11
      have HE := hide (specTrmOk_any a5 c5 t w11 htm (hr5.below h211) (unhide HFt))
      cases hok : trm t with
      | false =>
        rw [hok] at HE
        have e0 : encT t = [] := by simp [encT, hok]
        have hz0 : z.length = 0 := by rw [← unhide HZ, e0]; rfl
        go_wp2_with fail
        refine (unhide HE).mono ?_
        rintro e wy ⟨rfl, hby⟩
        have hBy := bstep hB11 hby
        try rw [hz0]
        clear hz0 e0
        go_wp2_with fail
        refine (caOk_any wy).mono ?_
        rintro e wx ⟨rfl, hbx⟩
        have hBx := bstep hBy hbx
        go_wp2
        go_ret
        exact ⟨rfl, hBx⟩
      | true =>
        rw [hok] at HE
        go_wp2_with fail
        refine (unhide HE).mono ?_
        rintro e wy ⟨rfl, hby⟩
        have hBy := bstep hB11 hby
        have h2y := bstep h211 hby
        have h7y := bstep h711 hby
        have HK := hide (implTrmTake_any a7 c7 z wy (hr7.below h7y) (unhide HZy) (unhide HG wy hBy) hzl hc7)
        go_wp2_with fail
        refine (unhide HK).mono ?_
        rintro e wx ⟨v12, rfl, hO12, hbx⟩
        have er : rdAll z = some t := by rw [← unhide HZ]; exact rdAll_encT hok
        rw [er] at hO12 ⊢
        simp only [Option.getD_some, Option.isSome_some] at hO12 ⊢
        have hBx := bstep hBy hbx
        have h2x := bstep h2y hbx
        obtain ⟨a12, c12, rfl, hr12⟩ := hO12.shape
        clear er hO12
        go_wp2_with fail
        refine (caTerm_any a12 a5 c12 c5 t t wx htm hr12 (hr5.below h2x)).mono ?_
        rw [sameS_yes rfl]
        rintro e wu ⟨rfl, hbu⟩
        go_wp2
        go_ret
        exact ⟨rfl, bstep hBx hbu⟩
    | false =>
      have HE := hide (specTrmOk_any a5 c5 t w8 htm (hr5.below h28) (unhide HFt))
      cases hok : trm t with
      | false =>
        rw [hok] at HE
        have e0 : encT t = [] := by simp [encT, hok]
        have hz0 : z.length = 0 := by rw [← unhide HZ, e0]; rfl
        go_wp2_with fail
        refine (unhide HE).mono ?_
        rintro e wy ⟨rfl, hby⟩
        have hBy := bstep hB8 hby
        try rw [hz0]
        clear hz0 e0
        go_wp2_with fail
        refine (caOk_any wy).mono ?_
        rintro e wx ⟨rfl, hbx⟩
        have hBx := bstep hBy hbx
        go_wp2
        go_ret
        exact ⟨rfl, hBx⟩
      | true =>
        rw [hok] at HE
        go_wp2_with fail
        refine (unhide HE).mono ?_
        rintro e wy ⟨rfl, hby⟩
        have hBy := bstep hB8 hby
        have h2y := bstep h28 hby
        have h7y := bstep h78 hby
        have HK := hide (implTrmTake_any a7 c7 z wy (hr7.below h7y) (unhide HZy) (unhide HG wy hBy) hzl hc7)
        go_wp2_with fail
        refine (unhide HK).mono ?_
        rintro e wx ⟨v12, rfl, hO12, hbx⟩
        have er : rdAll z = some t := by rw [← unhide HZ]; exact rdAll_encT hok
        rw [er] at hO12 ⊢
        simp only [Option.getD_some, Option.isSome_some] at hO12 ⊢
        have hBx := bstep hBy hbx
        have h2x := bstep h2y hbx
        obtain ⟨a12, c12, rfl, hr12⟩ := hO12.shape
        clear er hO12
        go_wp2_with fail
        refine (caTerm_any a12 a5 c12 c5 t t wx htm hr12 (hr5.below h2x)).mono ?_
        rw [sameS_yes rfl]
        rintro e wu ⟨rfl, hbu⟩
        go_wp2
        go_ret
        exact ⟨rfl, bstep hBx hbu⟩
  · go_enter Tryd.func3, Tryd.ntmps3
    by_cases h1 : la ≤ 1048576
    · have h2 : ¬ lb ≤ 1048576 := fun h => hbig ⟨h1, h⟩
      clear hbig
      go_wp2
      go_ret
      exact ⟨rfl, Below.refl _ _⟩
    · clear hbig
      go_wp2
      go_ret
      exact ⟨rfl, Below.refl _ _⟩
end Go.Proofs.YtjinbinnjpjniaaDoor
