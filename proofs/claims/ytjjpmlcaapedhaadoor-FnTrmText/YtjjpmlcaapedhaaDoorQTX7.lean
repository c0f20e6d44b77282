/- The program: a tree written, its text; TrmText. -/
import Derived.Test.YtjjpmlcaapedhaaDoorQTX6
namespace Go.Proofs.YtjjpmlcaapedhaaDoor
open Go.RowKit
set_option linter.unusedVariables false
set_option linter.unusedSimpArgs false

set_option maxRecDepth 100000 in
set_option maxHeartbeats 2000000 in
/-- A node that has no name. -/
theorem write_var (w0 : World) (hT : TenT w0) (b p : Nat) (c : C) (v : Value) (hn : Node w0 p c v) (hk : c.k = 1) (hr : -9999 ≤ c.n ∧ c.n ≤ 99999) (ha : ari c = 0) (w : World) (s : ByteArray) (hB : Below w0.heap.size w0 w) (hb : Bld w w0.heap.size b s) (hsz : s.size + 11 ≤ 4000000) (hws : (wordB c).size ≤ 8) :
    Calls Tryd.prog 45 #[.pointer (some ⟨p, 0, none⟩), .pointer (some ⟨b, 0, none⟩)] w (Wrote w0 b s [c]) := by
  obtain ⟨c0, c1, c2⟩ := hn.cells
  replace c0 := cell_b0 hB c0
  replace c1 := cell_b0 hB c1
  rw [hk] at c0
  have hwb : wordB c = xB ++ numB c.n := by unfold wordB; rw [if_pos hk]
  have HI := hide (Itoa_any c.n w (by omega) (by omega) (show TenT w from hT.below hB))
  have hu8 : (numB c.n).size ≤ 8 := by rw [hwb, ByteArray.size_append] at hws; omega
  have HW := hide (fun (W : World) (h : Below w.heap.size w W) => WriteString_any w0.heap.size b s (xB ++ numB c.n) W (hb.below h) (Nat.le_trans hB.size h.size) (by rw [← hwb]; omega))
  have HT := hide (show Txt wordB [c] (xB ++ numB c.n) from by rw [← hwb]; exact .leaf ha)
  obtain ⟨d, hd⟩ : ∃ d, d = numB c.n := ⟨_, rfl⟩
  rw [← hd] at HI HW HT hu8
  have hcat : ¬ (({ data := #[88] } : ByteArray).size + d.size > 9223372036854775807) := by have : ({ data := #[88] } : ByteArray).size = 1 := rfl; omega
  have HB := hide hB
  clear hd hwb hws c2 hn hb hB
  go_enter Tryd.func45, Tryd.ntmps45
  go_wp2_with fail
  refine (unhide HI).mono ?_
  rintro e w1 ⟨rfl, hb1⟩
  have H2 := hide (unhide HW w1 hb1)
  have HB1 := hide ((unhide HB).trans (hb1.mono (unhide HB).size))
  clear hb1 HI HW
  go_wp2_with fail
  refine (unhide H2).mono ?_
  rintro e w2 ⟨rfl, hb2, hB2⟩
  have HF := hide (fun v => wrote_mk (v := v) (unhide HT) hb2 ((unhide HB1).trans hB2))
  clear hb2 hB2 H2
  go_wp2
  exact bodyPost_end (results_none rfl _ _ _) rfl (unhide HF _)

set_option maxRecDepth 100000 in
set_option maxHeartbeats 2000000 in
theorem write_num (w0 : World) (hT : TenT w0) (b p : Nat) (c : C) (v : Value) (hn : Node w0 p c v) (hk : c.k = 2) (hr : -9999 ≤ c.n ∧ c.n ≤ 99999) (ha : ari c = 0) (w : World) (s : ByteArray) (hB : Below w0.heap.size w0 w) (hb : Bld w w0.heap.size b s) (hsz : s.size + 11 ≤ 4000000) (hws : (wordB c).size ≤ 8) :
    Calls Tryd.prog 45 #[.pointer (some ⟨p, 0, none⟩), .pointer (some ⟨b, 0, none⟩)] w (Wrote w0 b s [c]) := by
  obtain ⟨c0, c1, c2⟩ := hn.cells
  replace c0 := cell_b0 hB c0
  replace c1 := cell_b0 hB c1
  rw [hk] at c0
  have hwb : wordB c = numB c.n := by unfold wordB; rw [if_neg (by omega), if_pos hk]
  have HI := hide (Itoa_any c.n w (by omega) (by omega) (show TenT w from hT.below hB))
  have HW := hide (fun (W : World) (h : Below w.heap.size w W) => WriteString_any w0.heap.size b s (numB c.n) W (hb.below h) (Nat.le_trans hB.size h.size) (by rw [← hwb]; omega))
  have HT := hide (show Txt wordB [c] (numB c.n) from by rw [← hwb]; exact .leaf ha)
  obtain ⟨d, hd⟩ : ∃ d, d = numB c.n := ⟨_, rfl⟩
  rw [← hd] at HI HW HT
  have HB := hide hB
  clear hd hwb hws c2 hn hb hB
  go_enter Tryd.func45, Tryd.ntmps45
  go_wp2_with fail
  refine (unhide HI).mono ?_
  rintro e w1 ⟨rfl, hb1⟩
  have H2 := hide (unhide HW w1 hb1)
  have HB1 := hide ((unhide HB).trans (hb1.mono (unhide HB).size))
  clear hb1 HI HW
  go_wp2_with fail
  refine (unhide H2).mono ?_
  rintro e w2 ⟨rfl, hb2, hB2⟩
  have HF := hide (fun v => wrote_mk (v := v) (unhide HT) hb2 ((unhide HB1).trans hB2))
  clear hb2 hB2 H2
  go_wp2
  exact bodyPost_end (results_none rfl _ _ _) rfl (unhide HF _)

set_option maxRecDepth 100000 in
set_option maxHeartbeats 2000000 in
theorem write_fun (w0 : World) (b p : Nat) (c : C) (v : Value) (hn : Node w0 p c v) (hk : c.k = 3) (ks : List (Nat × List (Nat × C))) (hkl : (ks.length : Int) = ari c) (w : World) (s : ByteArray) (hB : Below w0.heap.size w0 w) (hb : Bld w w0.heap.size b s) (hsz : s.size + 11 ≤ 4000000) (hws : (wordB c).size ≤ 8)
    (HA : ∀ (W : World), Below w0.heap.size w0 W → Bld W w0.heap.size b (s ++ c.s) → Calls Tryd.prog 62 #[.pointer (some ⟨p, 0, none⟩), .pointer (some ⟨b, 0, none⟩)] W (WroteA w0 b (s ++ c.s) ks)) :
    Calls Tryd.prog 45 #[.pointer (some ⟨p, 0, none⟩), .pointer (some ⟨b, 0, none⟩)] w (Wrote w0 b s (c :: (ks.map (fun k => k.2.map (·.2))).flatten)) := by
  obtain ⟨c0, c1, c2⟩ := hn.cells
  replace c0 := cell_b0 hB c0
  replace c2 := cell_b0 hB c2
  rw [hk] at c0
  have hwb : wordB c = c.s := by unfold wordB; rw [if_neg (by omega), if_neg (by omega)]
  have HW := hide (WriteString_any w0.heap.size b s c.s w hb hB.size (by rw [← hwb]; omega))
  have HA' := hide HA
  have HB := hide hB
  have HWB := hide (And.intro hwb hkl)
  clear hwb hws c1 hn hb hB HA hkl
  go_enter Tryd.func45, Tryd.ntmps45
  go_wp2_with fail
  refine (unhide HW).mono ?_
  rintro e w1 ⟨rfl, hb1, hB1⟩
  have H2 := hide (unhide HA' w1 ((unhide HB).trans hB1) hb1)
  clear hb1 hB1 HW
  go_wp2_with fail
  refine (unhide H2).mono ?_
  intro e w2 hwa
  obtain ⟨us, ⟨v2, rfl⟩, hul, htx, hb2, hB2⟩ := hwa
  have HF : Hid (∀ v, Wrote w0 b s (c :: (ks.map (fun k => k.2.map (·.2))).flatten) (.returned v) w2) := by
    intro v
    obtain ⟨hwb, hkl⟩ := unhide HWB
    by_cases hks : ks = []
    · rw [if_pos hks] at hb2
      subst hks
      refine wrote_mk (u := c.s) ?_ (by simpa using hb2) hB2
      rw [← hwb]
      exact .leaf (by rw [← hkl]; rfl)
    · rw [if_neg hks] at hb2
      refine wrote_mk (u := wordB c ++ lpB ++ joinB us ++ rpB) (.node (by simpa using hks) (by simpa using hkl) (by simpa using hul) (fun i h1 h2 => by simpa using htx i (by simpa using h1) h2)) ?_ hB2
      have hpre : preB us = lpB ++ joinB us := by
        cases us with
        | nil => have h0 : ks.length = 0 := hul.symm; exact absurd (List.length_eq_zero_iff.1 h0) hks
        | cons a r => rfl
      rw [hpre] at hb2
      rw [hwb]
      simpa only [ByteArray.append_assoc] using hb2
  clear hb2 hB2 H2 htx hul
  go_wp2
  exact bodyPost_end (results_none rfl _ _ _) rfl (unhide HF _)

theorem write_all (w0 : World) (hT : TenT w0) (b : Nat) : ∀ (f p : Nat) (z : List (Nat × C)), Tre (fun i => i < w0.heap.size) w0 f p z → (∀ x ∈ z, okC x.2 = true) → ∀ (w : World) (s : ByteArray), Below w0.heap.size w0 w → Bld w w0.heap.size b s → s.size + 11 * z.length ≤ 4000000 →
    Calls Tryd.prog 45 #[.pointer (some ⟨p, 0, none⟩), .pointer (some ⟨b, 0, none⟩)] w (Wrote w0 b s (z.map (·.2)))
  | f + 1, p, z, ⟨c, ks, ao, cap, e, hp, hl, hn, hr, hs⟩, hok, w, s, hB, hb, hsz => by
      have hokc : okC c = true := hok (p, c) (by rw [e]; simp)
      obtain ⟨hk, h1, h2, _⟩ := okC_parts hokc
      have hws := wordB_size hokc
      have hzl : z.length = 1 + szK ks := by rw [e, List.length_cons, szK_flat]; omega
      have hsn : (s ++ c.s).size ≤ s.size + 8 := by rw [ByteArray.size_append]; have := (okC_parts hokc).2.2.2; omega
      have h6 : (s ++ c.s).size + 11 * szK ks + 2 ≤ 4000000 := by omega
      by_cases h3 : c.k = 3
      · have hm : z.map (·.2) = c :: (ks.map (fun k => k.2.map (·.2))).flatten := by rw [e, List.map_cons, List.map_flatten, List.map_map]; rfl
        rw [hm]
        refine write_fun w0 b p c _ hn h3 ks hl.2 w s hB hb (by omega) hws fun W hW hbW => ?_
        by_cases hks : ks = []
        · subst hks
          exact writeArgs_none w0 b p ao cap (s ++ c.s) W hn.cell hW hbW
        · rcases hr with hr | ⟨q, rfl, hq, hr⟩
          · exact absurd hr hks
          · refine writeArgs_some w0 b p q cap ks (s ++ c.s) W hn.cell hks hl.1 hr ?_ ?_ hW hbW h6
            · intro k hk w' s' hB' hb' hs'
              exact write_all w0 hT b f k.1 k.2 (hs k hk) (fun x hx => hok x (by rw [e]; simp only [List.mem_cons, List.mem_flatten]; exact .inr ⟨k.2, List.mem_map_of_mem hk, hx⟩)) w' s' hB' hb' hs'
            · intro k hk x hx
              exact hok x (by rw [e]; simp only [List.mem_cons, List.mem_flatten]; exact .inr ⟨k.2, List.mem_map_of_mem hk, hx⟩)
      · have ha : ari c = 0 := by unfold ari; rw [if_neg h3]
        have hks : ks = [] := List.length_eq_zero_iff.1 (by have := hl.2; omega)
        subst hks
        have hm : z.map (·.2) = [c] := by rw [e]; rfl
        rw [hm]
        rcases hk with hk | hk | hk
        · exact write_var w0 hT b p c _ hn hk ⟨h1, h2⟩ ha w s hB hb (by omega) hws
        · exact write_num w0 hT b p c _ hn hk ⟨h1, h2⟩ ha w s hB hb (by omega) hws
        · exact absurd hk h3

set_option maxRecDepth 100000 in
set_option maxHeartbeats 2000000 in
theorem text_any (w : World) (hT : TenT w) (f p : Nat) (z : List (Nat × C)) (hz : Tre (fun i => i < w.heap.size) w f p z) (hok : ∀ x ∈ z, okC x.2 = true) (hl : z.length ≤ 1000) :
    Calls Tryd.prog 26 #[.pointer (some ⟨p, 0, none⟩)] w fun e w' => e = .returned (.string (textOf wordB (z.map (·.2)))) ∧ Below w.heap.size w w' := by
  obtain ⟨W, hW⟩ : ∃ W, W = w.alloc (.cells #[.pointer none, .slice none 0 0] 78) := ⟨_, rfl⟩
  have hB0 : Below w.heap.size w W := by rw [hW]; exact cell_below _ _
  have hb : Bld W w.heap.size w.heap.size ByteArray.empty := ⟨Nat.le_refl _, .pointer none, .slice none 0 0, by rw [hW]; exact heap_alloc_new w _, .inl rfl, ⟨rfl, .inl ⟨rfl, rfl⟩⟩, by simp [Value.ownBlock]⟩
  have H1 := hide (write_all w hT w.heap.size f p z hz hok W ByteArray.empty hB0 hb (by simp; omega))
  clear hz hok hB0 hb
  go_enter Tryd.func26, Tryd.ntmps26
  go_wp2_with fail
  rw [← hW]
  clear hW
  refine (unhide H1).mono ?_
  intro e w1 hwr
  obtain ⟨u, ⟨v, rfl⟩, htx, hb1, hB1⟩ := hwr
  rw [ByteArray.empty_append] at hb1
  have H2 := hide (String_any w.heap.size w.heap.size u w1 hb1 hB1.size)
  have HT := hide (textOf_of htx)
  have HB := hide hB1
  clear hb1 hB1 htx H1
  go_wp2_with fail
  refine (unhide H2).mono ?_
  rintro e w2 ⟨rfl, hb2⟩
  go_wp2
  go_ret
  exact ⟨by rw [unhide HT]; rfl, (unhide HB).trans hb2⟩

/-- A term's text; none, if places are no term. -/
def textT (t : List C) : ByteArray := if trm t then textOf wordB t else ByteArray.empty

set_option maxRecDepth 100000 in
set_option maxHeartbeats 2000000 in
theorem implTrmText_any (ao : Option Addr) (cap : Nat) (t : List C) (w : World) (hcap : t.length ≤ cap) (hcm : cap ≤ maxLen) (hA : Row w ao t) (hF : Fit t) (hT : TenT w) :
    Calls Tryd.prog 9 #[.slice ao t.length cap] w fun e w' => e = .returned (.string (textT t)) ∧ Below w.heap.size w w' := by
  cases ht : trm t with
  | false =>
    have H1 := hide (treeOf_no ao cap t w (Nat.le_trans hcap hcm) hA hF ht)
    have HE := hide (show textT t = ByteArray.empty from by unfold textT; rw [ht]; rfl)
    clear hA hF
    go_enter Tryd.func9, Tryd.ntmps9
    go_wp2_with fail
    refine (unhide H1).mono ?_
    rintro e w1 ⟨rfl, hb1⟩
    go_wp2
    go_ret
    exact ⟨by rw [unhide HE]; rfl, hb1⟩
  | true =>
    have H1 := hide (treeOf_yes 0 ao cap t w hcap hcm (Nat.zero_le _) hA hF ht)
    have HE := hide (show textT t = textOf wordB t from by unfold textT; rw [ht]; rfl)
    have hok := ((trm_iff t).1 ht).2.2.1
    have hl := (trm_len ht).2
    clear hA hF
    go_enter Tryd.func9, Tryd.ntmps9
    go_wp2_with fail
    refine (unhide H1).mono ?_
    intro e w1 hg
    obtain ⟨p, z, rfl, hz, _, hTr, hb1⟩ := hg
    have H2 := hide (text_any w1 (hT.below hb1) t.length p z (hTr.kept (fun b h => h.2) (fun _ _ => rfl)) (fun x hx => hok _ (by rw [← hz]; exact List.mem_map_of_mem hx)) (by have := congrArg List.length hz; simp at this; omega))
    rw [hz] at H2
    have HB := hide hb1
    clear hz hTr hb1 H1
    go_wp2_with fail
    refine (unhide H2).mono ?_
    rintro e w2 ⟨rfl, hb2⟩
    go_wp2
    go_ret
    exact ⟨by rw [unhide HE]; rfl, bstep (unhide HB) hb2⟩
end Go.Proofs.YtjjpmlcaapedhaaDoor
