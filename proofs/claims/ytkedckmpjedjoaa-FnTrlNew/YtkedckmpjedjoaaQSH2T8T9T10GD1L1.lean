import Derived.Test.YtkedckmpjedjoaaQT5SH0SH1QI5
import Derived.Test.YtkedckmpjedjoaaQW18GI6GI6call
import Derived.Test.YtkedckmpjedjoaaQW15W16W2
import Derived.Test.YtkedckmpjedjoaaQOpen2D1D2D3D4D5D6PX1YMYW1TXSTXRYB1YB2YB3RR5
import Derived.Deep.RegionHeld3
import Derived.Test.YtkedckmpjedjoaaQW7Plain2G1
import Derived.Test.YtkedckmpjedjoaaQW3W4W6
/- The walk of TrmShift. -/
namespace Go.Proofs.Ytkedckmpjedjoaa
open Go.RowKit Go.Shelf
set_option linter.unusedVariables false
set_option linter.unusedSimpArgs false

end Go.Proofs.Ytkedckmpjedjoaa

/- The walk of the model's TrmShift. -/
namespace Go.Proofs.Ytkedckmpjedjoaa
open Go.RowKit
set_option linter.unusedVariables false
set_option linter.unusedSimpArgs false

theorem shift_step {t : List C} {k : Nat} (n : Int) (h : k < t.length) : (t.take (k + 1)).map (shiftC n) = (t.take k).map (shiftC n) ++ [shiftC n t[k]] := by
  rw [List.take_succ_eq_append_getElem h, List.map_append]; rfl

theorem shiftC_var {n : Int} {c : C} (h : c.k = 1) : shiftC n c = ⟨c.k, c.n + n, c.s⟩ := by simp [shiftC, h]
theorem shiftC_other {n : Int} {c : C} (h : c.k ≠ 1) : shiftC n c = c := by simp [shiftC, h]

theorem made_nil {w w1 : World} (hb1 : Below w.heap.size w w1) : OwnC (w1.alloc (.cells #[] 98)) w.heap.size (.slice (some ⟨w1.heap.size, 0, none⟩) 0 0) [] :=
  OwnC.base (World.ownsRow_made w1 #[] 0 (Nat.le_refl _) (by simp [maxLen]) rfl) hb1.size

theorem fit_shift {t : List C} {n : Int} (h : Fit t) : Fit (t.map (shiftC n)) := fun c hc => by
  obtain ⟨c', hc', rfl⟩ := List.mem_map.1 hc
  have := h c' hc'
  unfold shiftC; split <;> exact this

end Go.Proofs.Ytkedckmpjedjoaa

/- The walk of TrmMake. -/
namespace Go.Proofs.Ytkedckmpjedjoaa
open Go.RowKit Go.Shelf
set_option linter.unusedVariables false
set_option linter.unusedSimpArgs false

/-- From cell 'off' of block b on lie slices that lead to places. -/
def AtS (w : World) (b off : Nat) (ts : List (List C)) : Prop :=
  ∀ i, (h : i < ts.length) → ∃ ao cap, w.cell? ⟨b, off + i, none⟩ = some (.slice ao ts[i].length cap) ∧ ts[i].length ≤ cap ∧ cap ≤ maxLen ∧ Row w ao ts[i]

theorem AtS.below {w w' : World} {b off : Nat} {ts : List (List C)} (h : AtS w b off ts) (hb : Below w.heap.size w w') : AtS w' b off ts := fun i hi => by
  obtain ⟨ao, cap, h1, h2, h3, h4⟩ := h i hi
  exact ⟨ao, cap, (hb.cell (p := ⟨b, off + i, none⟩) (World.block_lt_of_cell? w _ h1)).trans h1, h2, h3, h4.below hb⟩

/-- What TrmMake is of a name and places. -/
def makeOf (s : ByteArray) (ts : List (List C)) : List C := if ∀ t ∈ ts, trm t = true then listed (⟨3, ts.length, s⟩ :: ts.flatten) else []

theorem Tre.fuel {S : Nat → Prop} {W : World} : ∀ {f g p : Nat} {z : List (Nat × C)}, Tre S W f p z → f ≤ g → Tre S W g p z
  | f + 1, g + 1, p, z, ⟨c, ks, ao, cap, e, hp, hl, hn, hr, hs⟩, h => ⟨c, ks, ao, cap, e, hp, hl, hn, hr, fun k hk => (hs k hk).fuel (by omega)⟩

theorem makeOf_bad {s : ByteArray} {ts : List (List C)} (h : okC ⟨3, ts.length, s⟩ = false) : makeOf s ts = [] := by
  unfold makeOf
  split
  · unfold listed
    rw [if_neg]
    intro h'
    have := ((trm_iff _).1 h').2.2.1 _ (List.mem_cons_self)
    rw [h] at this; cases this
  · rfl
theorem makeOf_no {s : ByteArray} {ts : List (List C)} {t : List C} (h : t ∈ ts) (hn : trm t = false) : makeOf s ts = [] := by
  unfold makeOf
  rw [if_neg (fun h' => by have := h' t h; rw [hn] at this; cases this)]
theorem makeOf_all {s : ByteArray} {ts : List (List C)} (h : ∀ t ∈ ts, trm t = true) : makeOf s ts = listed (⟨3, ts.length, s⟩ :: ts.flatten) := by
  unfold makeOf
  rw [if_pos h]

end Go.Proofs.Ytkedckmpjedjoaa

/- The walk of the model's TrmMake. -/
namespace Go.Proofs.Ytkedckmpjedjoaa
open Go.RowKit
set_option linter.unusedVariables false
set_option linter.unusedSimpArgs false

theorem trm_lens : ∀ us : List (List C), (∀ t ∈ us, trm t = true) → us.flatten.length ≤ us.length * 40 := by
  intro us
  induction us with
  | nil => intro _; simp
  | cons u us ih =>
    intro hu
    have h1 := (trm_len (hu u (by simp))).2
    have h2 := ih (fun q hq => hu q (by simp [hq]))
    rw [List.flatten_cons, List.length_append, List.length_cons]
    omega

theorem own_cell1 (w : World) (c : C) : OwnC (w.alloc (.cells #[.int .i64 c.k, .int .i64 c.n, .string c.s] 98)) w.heap.size (.slice (some ⟨w.heap.size, 0, none⟩) 1 1) [c] :=
  ⟨rfl, .inr ⟨w.heap.size, 1, _, rfl, Nat.le_refl _, World.alloc_heap_new w _, Nat.le_refl _, by simp [maxLen], rfl, rfl⟩⟩

set_option maxRecDepth 100000 in
set_option maxHeartbeats 4000000 in
theorem specTrmMake_some (b off cap : Nat) (s : ByteArray) (ts : List (List C)) (w : World) (hs : s.size ≤ maxLen) (hl : ts.length ≤ 1048576) (hA : AtS w b off ts) (hF : ∀ t ∈ ts, Fit t) (hm : ∀ t ∈ ts, t.length ≤ maxLen) :
    Calls Try.prog 175 #[.string s, .slice (some ⟨b, off, none⟩) ts.length cap] w fun e w' => ∃ v, e = .returned v ∧ OwnC w' w.heap.size v (makeOf s ts) ∧ Below w.heap.size w w' := by
  obtain ⟨i0, hi, hz0, hz1, hz2⟩ := info_parts Try.infoCell
  have HF := hide hF
  have HM := hide hm
  clear hF hm
  go_enter Try.func175, Try.ntmps175
  go_wp2
  go_loopw [5, 6] (fun o i wr => ∃ k : Nat, k ≤ ts.length ∧ i = .int .i64 k ∧ (∀ t ∈ ts.take k, trm t = true) ∧ OwnC wr w.heap.size o (⟨3, ts.length, s⟩ :: (ts.take k).flatten) ∧ Below w.heap.size w wr) (fun _ i _ => ts.length - (intOf i).toNat)
  case atStart => exact ⟨0, Nat.zero_le _, rfl, by simp, own_cell1 w ⟨3, ts.length, s⟩, cell_below _ _⟩
  case round =>
    obtain ⟨k, hk, rfl, hall, hown, hB⟩ := hrel
    have hyl := trm_lens _ hall
    have HALL := hide hall
    clear hall
    have hkt : (ts.take k).length = k := by rw [List.length_take]; omega
    rw [hkt] at hyl
    clear hkt
    by_cases hlt : k < ts.length
    · obtain ⟨ao, cp, hcl, hcap, hcm, hR⟩ := (hA.below hB) k hlt
      have hFk := unhide HF _ (List.getElem_mem hlt)
      have hMk := unhide HM _ (List.getElem_mem hlt)
      have H3 := hide (specTrmOk_any ao cp (ts[k]'hlt) wr hMk hR hFk)
      have HNO := hide (fun (hn : trm (ts[k]'hlt) = false) => makeOf_no (s := s) (List.getElem_mem hlt) hn)
      have HTA : Hid (trm (ts[k]'hlt) = true → ∀ t ∈ ts.take (k + 1), trm t = true) := fun hy t ht => by
        rw [List.take_succ_eq_append_getElem hlt] at ht
        rcases List.mem_append.1 ht with ht | ht
        · exact unhide HALL t ht
        · simp at ht; rw [ht]; exact hy
      have HFL : Hid ((⟨3, ts.length, s⟩ : C) :: (ts.take (k + 1)).flatten = ((⟨3, ts.length, s⟩ : C) :: (ts.take k).flatten) ++ ts[k]'hlt) := by
        show _ = _
        rw [List.take_succ_eq_append_getElem hlt, List.flatten_append]; simp
      obtain ⟨t, ht⟩ : ∃ t, t = ts[k]'hlt := ⟨_, rfl⟩
      rw [← ht] at hcl hR hFk hMk HNO H3 HTA HFL hcap
      clear ht
      have hyl' : ((⟨3, ts.length, s⟩ : C) :: (ts.take k).flatten).length ≤ 41943041 := by rw [List.length_cons]; omega
      obtain ⟨y, hy⟩ : ∃ y, y = (⟨3, ts.length, s⟩ : C) :: (ts.take k).flatten := ⟨_, rfl⟩
      rw [← hy] at hown HFL hyl'
      clear hy hyl
      obtain ⟨oa, oc, rfl, _⟩ := hown.shape
      cases hok : trm t with
      | false =>
        rw [hok] at H3
        have HE := hide (unhide HNO hok)
        go_wp2_with (go_at_call 112; refine (unhide H3).mono ?_; rintro e w1 ⟨rfl, hb1⟩)
        go_ret
        exact ⟨_, rfl, by rw [unhide HE]; exact made_nil (bstep hB hb1), bstep (bstep hB hb1) (cell_below _ _)⟩
      | true =>
        rw [hok] at H3
        have htl := trm_len hok
        have HT' := hide (unhide HTA hok)
        rcases hR with h0 | ⟨b2, off2, rfl, hA2⟩
        · rw [h0] at htl; simp at htl
        have hbl2 : b < wr.heap.size := World.block_lt_of_cell? wr ⟨b, off + k, none⟩ hcl
        clear hok HTA HNO
        go_wp2_with fail
        refine (unhide H3).mono ?_
        rintro e w1 ⟨rfl, hb1⟩
        have hown1 := OwnC.below hown hb1
        have hB1 := bstep hB hb1
        have hcl1 := (hb1.cell (p := ⟨b, off + k, none⟩) hbl2).trans hcl
        have HA1 := hide (hA2.below hb1).each
        have hfl : (flat t).length = t.length * 3 := flat_length t
        have HFLL := hide hfl
        clear hfl
        go_wp2_with (at_builtin; refine wpList_append_own _ rfl (.tmp 25) (.tmp 29) 41 rfl w.heap.size 98 i0 _ 3 32 Try.underlying41 hi hz0 hz1 hz2 rfl (by decide) _ _ _ rfl hown1 ⟨b2, off2, none⟩ t.length cp (flat t) rfl (unhide HFLL) (unhide HA1) (flat_one t) ?s3 ?s4 ?s5 ?_)
        case s3 => unfold maxLen; omega
        case s4 => omega
        case s5 => exact hB1.size
        intro v3 w3 ho3 hG3 _
        have hb3 : Below w.heap.size w w3 := hB1.grown hG3 hB1.size (fun j e => (hown1.lt j e).1)
        have HO3 : Hid (OwnC w3 w.heap.size v3 (y ++ t)) := by
          show OwnC w3 w.heap.size v3 (y ++ t)
          unfold OwnC
          rw [List.length_append, flat_append]
          exact ho3
        clear ho3 hG3
        go_wp2
        go_roundw
        case rel => exact ⟨k + 1, by omega, by go_num, unhide HT', by rw [unhide HFL]; exact unhide HO3, hb3⟩
        case measure => simp [intOf]; omega
    · have e : k = ts.length := by omega
      subst e
      have hall := unhide HALL
      rw [List.take_length] at hall hown
      have HE := hide (makeOf_all (s := s) hall)
      have HFY : Hid (Fit ((⟨3, ts.length, s⟩ : C) :: ts.flatten)) := fun c hc => by
        rcases List.mem_cons.1 hc with rfl | hc
        · exact hs
        · obtain ⟨t, ht, hc⟩ := List.mem_flatten.1 hc
          exact unhide HF t ht c hc
      have hyl2 := trm_lens _ hall
      have hyl' : ((⟨3, ts.length, s⟩ : C) :: ts.flatten).length ≤ 41943041 := by rw [List.length_cons]; omega
      obtain ⟨y, hy⟩ : ∃ y, y = (⟨3, ts.length, s⟩ : C) :: ts.flatten := ⟨_, rfl⟩
      rw [← hy] at hown HE hyl' HFY
      clear hy hyl hyl2 hall
      obtain ⟨oa, oc, rfl, hRo⟩ := hown.shape
      have H3 := hide (specTrmOk_any oa oc y wr (by unfold maxLen; omega) hRo (unhide HFY))
      cases hok : trm y with
      | false =>
        rw [hok] at H3
        go_wp2_with (go_at_call 112; refine (unhide H3).mono ?_; rintro e w1 ⟨rfl, hb1⟩)
        go_ret
        exact ⟨_, rfl, by rw [unhide HE, listed, hok]; exact made_nil (bstep hB hb1), bstep (bstep hB hb1) (cell_below _ _)⟩
      | true =>
        rw [hok] at H3
        go_wp2_with (go_at_call 112; refine (unhide H3).mono ?_; rintro e w1 ⟨rfl, hb1⟩)
        go_ret
        exact ⟨_, rfl, by rw [unhide HE, listed, hok]; exact OwnC.below hown hb1, bstep hB hb1⟩
end Go.Proofs.Ytkedckmpjedjoaa

/- A head that is drawn. -/
namespace Go.Proofs.Ytkedckmpjedjoaa
open Go.RowKit
set_option linter.unusedVariables false
set_option linter.unusedSimpArgs false

theorem name3 (j : Nat) (hj : j < 3) : ∃ s : ByteArray, s.size ≤ 9 ∧ ∀ W : World, (W.alloc (.cells #[.string (ByteArray.mk #[101]), .string (ByteArray.mk #[112]), .string (ByteArray.mk #[104])] 9)).cell? ⟨W.heap.size, j, none⟩ = some (.string s) := by
  have key : ∀ W : World, (W.alloc (.cells #[.string (ByteArray.mk #[101]), .string (ByteArray.mk #[112]), .string (ByteArray.mk #[104])] 9)).heap[W.heap.size]? = some (.cells #[.string (ByteArray.mk #[101]), .string (ByteArray.mk #[112]), .string (ByteArray.mk #[104])] 9) := fun W => World.alloc_heap_new W _
  match j, hj with
  | 0, _ => exact ⟨ByteArray.mk #[101], by decide, fun W => by simp only [World.cell?]; rw [key W]; rfl⟩
  | 1, _ => exact ⟨ByteArray.mk #[112], by decide, fun W => by simp only [World.cell?]; rw [key W]; rfl⟩
  | 2, _ => exact ⟨ByteArray.mk #[104], by decide, fun W => by simp only [World.cell?]; rw [key W]; rfl⟩
theorem cell_grown {W w2 : World} {R N j : Nat} {v : Value} (hG : W.grownBy w2 (some R)) (h : W.cell? ⟨N, j, none⟩ = some v) (hN : N ≠ R) : w2.cell? ⟨N, j, none⟩ = some v :=
  (World.cell?_of_block (a := ⟨N, j, none⟩) (hG.block N (World.block_lt_of_cell? W ⟨N, j, none⟩ h) (fun e => hN (by injection e)))).trans h
theorem grown_of {w w2 : World} {row : Option Nat} (h : Below w.heap.size w w2) : w.grownBy w2 row := ⟨h.os, h.tape, h.output, h.size, fun k hk _ => h.block k hk⟩
theorem atS_two {W : World} {xa ya : Option Addr} {xc yc : Nat} {a b : List C} (h1 : a.length ≤ xc) (h2 : xc ≤ maxLen) (hA : Row W xa a) (h3 : b.length ≤ yc) (h4 : yc ≤ maxLen) (hB : Row W ya b) :
    AtS (W.alloc (.cells #[.slice xa a.length xc, .slice ya b.length yc] 41)) W.heap.size 0 [a, b] := fun i hi => by
  have key := World.alloc_heap_new W (.cells #[.slice xa a.length xc, .slice ya b.length yc] 41)
  have hbl := cell_below W (.cells #[.slice xa a.length xc, .slice ya b.length yc] 41)
  match i, hi with
  | 0, _ => exact ⟨xa, xc, by simp only [World.cell?]; rw [key]; rfl, h1, h2, hA.below hbl⟩
  | 1, _ => exact ⟨ya, yc, by simp only [World.cell?]; rw [key]; rfl, h3, h4, hB.below hbl⟩
theorem make_two_dc {s : ByteArray} {a b : List C} (hs : s.size ≤ 9) (ha : ∀ c ∈ a, Ds c) (hb : ∀ c ∈ b, Ds c) : ∀ c ∈ makeOf s [a, b], Dc c := by
  intro c hc
  unfold makeOf at hc
  split at hc
  · unfold listed at hc
    split at hc
    · rcases List.mem_cons.1 hc with rfl | hc
      · exact dc_mk (by omega) (by omega) (by simp) (by simp) (by omega)
      · simp only [List.flatten_cons, List.flatten_nil, List.append_nil, List.mem_append] at hc
        rcases hc with hc | hc
        · exact (ha c hc).dc
        · exact (hb c hc).dc
    · simp at hc
  · simp at hc
theorem makeOf_le (s : ByteArray) (ts : List (List C)) : (makeOf s ts).length ≤ 40 := by
  unfold makeOf
  split
  · unfold listed
    split
    · rename_i h; exact (trm_len h).2
    · simp
  · simp
theorem shape3 {w : World} {base : Nat} {v : Value} {t : List C} (h : OwnC w base v t) : ∃ ao cap, v = .slice ao t.length cap ∧ t.length ≤ cap ∧ cap ≤ maxLen ∧ Row w ao t := by
  obtain ⟨ao, cap, e, hR⟩ := h.shape
  refine ⟨ao, cap, e, ?_, ?_, hR⟩
  · rcases h.2 with ⟨e1, h2⟩ | ⟨g, cap', cur, e1, _, _, h3, h4, _⟩
    · omega
    · rw [e] at e1; cases e1; exact h3
  · rcases h.2 with ⟨e1, h2⟩ | ⟨g, cap', cur, e1, _, _, h3, h4, _⟩
    · rw [e] at e1
      injection e1 with _ _ e3
      rw [e3]; simp [maxLen]
    · rw [e] at e1; cases e1; exact h4

set_option maxRecDepth 100000 in
set_option maxHeartbeats 8000000 in
theorem head_any (R p : Nat) (w : World) (hp : p ≤ 999980000) (h : Rd w R p) :
    Calls Try.prog 162 #[.pointer (some ⟨R, 0, none⟩)] w fun e w' => Drew Dc w R p 0 41 500 e w' := by
  have hlt := h.lt
  have hd : Rd w.drew R p := h.below (Below.refl _ _).drew
  have hn3 := name3
  have HT := hide (fun (s : ByteArray) (a b : List C) (hs : s.size ≤ 9) (la : a.length ≤ 40) (lb : b.length ≤ 40) (ha : ∀ c ∈ a, Ds c) (hb : ∀ c ∈ b, Ds c) (N : Nat) (W : World) (hA : AtS W N 0 [a, b]) => specTrmMake_some N 0 2 s [a, b] W (by unfold maxLen; omega) (by simp) hA (fun t ht => by simp at ht; rcases ht with rfl | rfl; exact (dc_fit (fun c hc => (ha c hc).dc)).1; exact (dc_fit (fun c hc => (hb c hc).dc)).1) (fun t ht => by simp at ht; unfold maxLen; rcases ht with rfl | rfl <;> omega))
  go_enter Try.func162, Try.ntmps162
  go_wp2
  go_region_with (first
    | (go_at_call 175; refine (unhide HT s t1 t2 hs hh1 hh2 hD1 hD2 _ _ (by first | exact at1 | exact at4 | exact at5)).mono ?_; rintro e w5 ⟨v5, rfl, ho5, hb5⟩; have g5 : Below w3.heap.size w3 w5 := (by first | exact bstep (cell_below _ _) hb5 | exact bstep (bstep (cell_below _ _) (cell_below _ _)) hb5))
    | (go_at_call 176; have hx := hG2; refine (term_any R p1 4 3 _ (by omega) (by omega) (by omega) (by omega) (by omega) (by first | exact hR2 | exact hR2.alloc _)).mono ?_; rintro e w3 ⟨v2, t2, p2, rfl, ho2, hl2, hh2, hD2, hR3, hp2, hG3⟩; obtain ⟨ya, yc, rfl, hc2, hm2, hr2⟩ := shape3 ho2; have a3 := hcl w3; have hG3' : w2.grownBy w3 (some R) := (by first | exact hG3 | exact grown_first hG3); have hr1' := hr1; have hr1 : Row w3 xa t1 := OwnC.row (own_apart ho1b hG3' (fun k e => by cases e; exact .inl hlt)); (try (have c3 := cell_grown hG3 c2 (by omega))); (try (have c3 := cell_grown hG3 a2 (by omega))); (try (have hN3 : _ < w3.heap.size := World.block_lt_of_cell? w3 ⟨_, j, none⟩ c3; have hN4 := Nat.ne_of_lt hN3)); (try (have c3p := cell_keep c3 (.cells #[.slice xa t1.length xc, .slice ya t2.length yc] 41))); have at1 : AtS (w3.alloc (.cells #[.slice xa t1.length xc, .slice ya t2.length yc] 41)) w3.heap.size 0 [t1, t2] := atS_two hc1 hm1 hr1 hc2 hm2 hr2; have at4 : AtS ((w3.alloc (.cells #[.string (ByteArray.mk #[101]), .string (ByteArray.mk #[112]), .string (ByteArray.mk #[104])] 9)).alloc (.cells #[.slice xa t1.length xc, .slice ya t2.length yc] 41)) (w3.heap.size + 1) 0 [t1, t2] := (by have q := atS_two (W := w3.alloc (.cells #[.string (ByteArray.mk #[101]), .string (ByteArray.mk #[112]), .string (ByteArray.mk #[104])] 9)) hc1 hm1 (hr1.below (cell_below _ _)) hc2 hm2 (hr2.below (cell_below _ _)); rw [show (w3.alloc (.cells #[.string (ByteArray.mk #[101]), .string (ByteArray.mk #[112]), .string (ByteArray.mk #[104])] 9)).heap.size = w3.heap.size + 1 by simp] at q; exact q); have at5 : AtS ((w3.alloc (.cells #[.slice xa t1.length xc, .slice ya t2.length yc] 41)).alloc (.cells #[.string (ByteArray.mk #[101]), .string (ByteArray.mk #[112]), .string (ByteArray.mk #[104])] 9)) w3.heap.size 0 [t1, t2] := at1.below (cell_below _ _); have a3p := cell_keep a3 (.cells #[.slice xa t1.length xc, .slice ya t2.length yc] 41); have a5 : ((w3.alloc (.cells #[.slice xa t1.length xc, .slice ya t2.length yc] 41)).alloc (.cells #[.string (ByteArray.mk #[101]), .string (ByteArray.mk #[112]), .string (ByteArray.mk #[104])] 9)).cell? ⟨w3.heap.size + 1, j, none⟩ = some (.string s) := (by have q := hcl (w3.alloc (.cells #[.slice xa t1.length xc, .slice ya t2.length yc] 41)); rw [show (w3.alloc (.cells #[.slice xa t1.length xc, .slice ya t2.length yc] 41)).heap.size = w3.heap.size + 1 by simp] at q; exact q))
    | (go_at_call 176; have hx := hG1; refine (term_any R (p + 1) 4 3 _ (by omega) (by omega) (by omega) (by omega) (by omega) (by first | exact hR1 | exact hR1.alloc _)).mono ?_; rintro e w2 ⟨v1, t1, p1, rfl, ho1, hl1, hh1, hD1, hR2, hp1, hG2⟩; obtain ⟨xa, xc, rfl, hc1, hm1, hr1⟩ := shape3 ho1; have a2 := hcl w2; have ho1b := OwnC.base ho1 (base' := w.heap.size) (by first | omega | (simp; omega)); have hG2' : w1.grownBy w2 (some R) := (by first | exact hG2 | exact grown_first hG2); have hs12 := hG2'.size; (try (have c2 := cell_grown hG2 c1 (by omega))); (try (have c2 := cell_grown hG2 a1 (by omega))))
    | (go_at_call 125; refine (pick_any R p 3 _ (by omega) (by omega) (by omega) (by first | exact hd | exact hd.alloc _)).mono ?_; rintro e w1 ⟨r, rfl, h0, h1, hR1, hG1⟩; obtain ⟨j, rfl⟩ := Int.eq_ofNat_of_zero_le h0; have hj : j < 3 := (by omega); obtain ⟨s, hs, hcl⟩ := hn3 j hj; have a1 := hcl w1; have hG1' : w.grownBy w1 (some R) := (by first | exact grown_undrew hG1 | exact grown_undrew (grown_first hG1)); have hs01 := hG1'.size; (try (have c1 : w1.cell? ⟨w.heap.size, j, none⟩ = some (.string s) := cell_grown hG1 (hcl w.drew) (by show w.heap.size ≠ R; omega)))))
  all_goals
    go_wp2
    go_ret
    exact drew_mk (ho5.base (by have q3 := hG3'.size; simp; omega)) (Nat.zero_le _) (by have := makeOf_le s [t1, t2]; omega) (make_two_dc hs hD1 hD2) (hR3.below g5) (by omega) (grown_trans (grown_trans (grown_trans hG1' hG2') hG3') (grown_of g5))
end Go.Proofs.Ytkedckmpjedjoaa

/- caOk; the walk of the law FnTrmWhole. -/
namespace Go.Proofs.Ytkedckmpjedjoaa
open Go.RowKit
set_option linter.unusedVariables false
set_option linter.unusedSimpArgs false

theorem fit_one : Fit [⟨2, 1, ByteArray.mk #[]⟩] := fun c hc => by simp at hc; subst hc; decide

set_option maxHeartbeats 400000 in
theorem caOk_any (w : World) : Calls Try.prog 31 #[] w fun e w' => e = .returned (.bool true) ∧ Below w.heap.size w w' := by
  have hA : At (w.alloc (.cells #[.int .i64 2, .int .i64 1, .string (ByteArray.mk #[])] 98)) w.heap.size 0 [⟨2, 1, ByteArray.mk #[]⟩] := fun i hi => by
    have h0 : i = 0 := by simp at hi; omega
    subst h0
    simp [go_sem]
  have h1 := TrmOk_some w.heap.size 0 1 [⟨2, 1, ByteArray.mk #[]⟩] _ (by simp [maxLen]) hA fit_one
  rw [trm_one] at h1
  have H := hide h1
  clear h1 hA
  go_enter Try.func31, Try.ntmps31
  go_wp2_with fail
  refine (unhide H).mono ?_
  rintro e w1 ⟨rfl, hb1⟩
  go_wp2
  go_ret
  exact ⟨rfl, bstep (cell_below _ _) hb1⟩

end Go.Proofs.Ytkedckmpjedjoaa
