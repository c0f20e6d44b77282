/- A head that is drawn. -/
import Derived.Test.YtmiofbifffnocaaQD4T10
import Derived.Test.YtmiofbifffnocaaQD6
import Derived.Deep.RegionHeld3
namespace Go.Proofs.Ytmiofbifffnocaa
open Go.RowKit
set_option linter.unusedVariables false
set_option linter.unusedSimpArgs false

theorem name3 (j : Nat) (hj : j < 3) : ∃ s : ByteArray, s.size ≤ 9 ∧ ∀ W : World, (W.alloc (.cells #[.string (ByteArray.mk #[101]), .string (ByteArray.mk #[112]), .string (ByteArray.mk #[104])] 9)).cell? ⟨W.heap.size, j, none⟩ = some (.string s) := by
  have key : ∀ W : World, (W.alloc (.cells #[.string (ByteArray.mk #[101]), .string (ByteArray.mk #[112]), .string (ByteArray.mk #[104])] 9)).heap[W.heap.size]? = some (.cells #[.string (ByteArray.mk #[101]), .string (ByteArray.mk #[112]), .string (ByteArray.mk #[104])] 9) := fun W => World.alloc_heap_new W _
  match j, hj with
  | 0, _ => exact ⟨ByteArray.mk #[101], by decide, fun W => by simp only [World.cell?]; rw [key W]; rfl⟩
  | 1, _ => exact ⟨ByteArray.mk #[112], by decide, fun W => by simp only [World.cell?]; rw [key W]; rfl⟩
  | 2, _ => exact ⟨ByteArray.mk #[104], by decide, fun W => by simp only [World.cell?]; rw [key W]; rfl⟩
theorem cell_grown {W w2 : World} {R N j : Nat} {v : Value} (hG : W.grownBy w2 (some R)) (h : W.cell? ⟨N, j, none⟩ = some v) (hN : N ≠ R) : w2.cell? ⟨N, j, none⟩ = some v :=
  (World.cell?_of_block (a := ⟨N, j, none⟩) (hG.block N (World.block_lt_of_cell? W ⟨N, j, none⟩ h) (fun e => hN (by injection e)))).trans h
theorem grown_of {w w2 : World} {row : Option Nat} (h : Below w.heap.size w w2) : w.grownBy w2 row := ⟨h.os, h.tape, h.output, h.size, fun k hk _ => h.block k hk⟩
theorem atS_two {W : World} {xa ya : Option Addr} {xc yc : Nat} {a b : List C} (h1 : a.length ≤ xc) (h2 : xc ≤ maxLen) (hA : Row W xa a) (h3 : b.length ≤ yc) (h4 : yc ≤ maxLen) (hB : Row W ya b) :
    AtS (W.alloc (.cells #[.slice xa a.length xc, .slice ya b.length yc] 27)) W.heap.size 0 [a, b] := fun i hi => by
  have key := World.alloc_heap_new W (.cells #[.slice xa a.length xc, .slice ya b.length yc] 27)
  have hbl := cell_below W (.cells #[.slice xa a.length xc, .slice ya b.length yc] 27)
  match i, hi with
  | 0, _ => exact ⟨xa, xc, by simp only [World.cell?]; rw [key]; rfl, h1, h2, hA.below hbl⟩
  | 1, _ => exact ⟨ya, yc, by simp only [World.cell?]; rw [key]; rfl, h3, h4, hB.below hbl⟩
theorem make_two_dc {s : ByteArray} {a b : List C} (hs : s.size ≤ 9) (ha : ∀ c ∈ a, Ds c) (hb : ∀ c ∈ b, Ds c) : ∀ c ∈ makeOf s [a, b], Dc c := by
  intro c hc
  unfold makeOf at hc
  split at hc
  · unfold listed at hc
    split at hc
    · rcases List.mem_cons.1 hc with rfl | hc
      · exact dc_mk (by omega) (by omega) (by simp) (by simp) (by omega)
      · simp only [List.flatten_cons, List.flatten_nil, List.append_nil, List.mem_append] at hc
        rcases hc with hc | hc
        · exact (ha c hc).dc
        · exact (hb c hc).dc
    · simp at hc
  · simp at hc
theorem makeOf_le (s : ByteArray) (ts : List (List C)) : (makeOf s ts).length ≤ 40 := by
  unfold makeOf
  split
  · unfold listed
    split
    · rename_i h; exact (trm_len h).2
    · simp
  · simp
theorem shape3 {w : World} {base : Nat} {v : Value} {t : List C} (h : OwnC w base v t) : ∃ ao cap, v = .slice ao t.length cap ∧ t.length ≤ cap ∧ cap ≤ maxLen ∧ Row w ao t := by
  obtain ⟨ao, cap, e, hR⟩ := h.shape
  refine ⟨ao, cap, e, ?_, ?_, hR⟩
  · rcases h.2 with ⟨e1, h2⟩ | ⟨g, cap', cur, e1, _, _, h3, h4, _⟩
    · omega
    · rw [e] at e1; cases e1; exact h3
  · rcases h.2 with ⟨e1, h2⟩ | ⟨g, cap', cur, e1, _, _, h3, h4, _⟩
    · rw [e] at e1
      injection e1 with _ _ e3
      rw [e3]; simp [maxLen]
    · rw [e] at e1; cases e1; exact h4

set_option maxRecDepth 100000 in
set_option maxHeartbeats 8000000 in
theorem head_any (R p : Nat) (w : World) (hp : p ≤ 999980000) (h : Rd w R p) :
    Calls Try.prog 94 #[.pointer (some ⟨R, 0, none⟩)] w fun e w' => Drew Dc w R p 0 41 500 e w' := by
  have hlt := h.lt
  have hd : Rd w.drew R p := h.below (Below.refl _ _).drew
  have hn3 := name3
  have HT := hide (fun (s : ByteArray) (a b : List C) (hs : s.size ≤ 9) (la : a.length ≤ 40) (lb : b.length ≤ 40) (ha : ∀ c ∈ a, Ds c) (hb : ∀ c ∈ b, Ds c) (N : Nat) (W : World) (hA : AtS W N 0 [a, b]) => specTrmMake_some N 0 2 s [a, b] W (by unfold maxLen; omega) (by simp) hA (fun t ht => by simp at ht; rcases ht with rfl | rfl; exact (dc_fit (fun c hc => (ha c hc).dc)).1; exact (dc_fit (fun c hc => (hb c hc).dc)).1) (fun t ht => by simp at ht; unfold maxLen; rcases ht with rfl | rfl <;> omega))
  go_enter Try.func94, Try.ntmps94
  go_wp2
  go_region_with (first
    | (go_at_call 120; refine (unhide HT s t1 t2 hs hh1 hh2 hD1 hD2 _ _ (by first | exact at1 | exact at4 | exact at5)).mono ?_; rintro e w5 ⟨v5, rfl, ho5, hb5⟩; have g5 : Below w3.heap.size w3 w5 := (by first | exact bstep (cell_below _ _) hb5 | exact bstep (bstep (cell_below _ _) (cell_below _ _)) hb5))
    | (go_at_call 79; have hx := hG2; refine (term_any R p1 4 3 _ (by omega) (by omega) (by omega) (by omega) (by omega) (by first | exact hR2 | exact hR2.alloc _)).mono ?_; rintro e w3 ⟨v2, t2, p2, rfl, ho2, hl2, hh2, hD2, hR3, hp2, hG3⟩; obtain ⟨ya, yc, rfl, hc2, hm2, hr2⟩ := shape3 ho2; have a3 := hcl w3; have hG3' : w2.grownBy w3 (some R) := (by first | exact hG3 | exact grown_first hG3); have hr1' := hr1; have hr1 : Row w3 xa t1 := OwnC.row (own_apart ho1b hG3' (fun k e => by cases e; exact .inl hlt)); (try (have c3 := cell_grown hG3 c2 (by omega))); (try (have c3 := cell_grown hG3 a2 (by omega))); (try (have hN3 : _ < w3.heap.size := World.block_lt_of_cell? w3 ⟨_, j, none⟩ c3; have hN4 := Nat.ne_of_lt hN3)); (try (have c3p := cell_keep c3 (.cells #[.slice xa t1.length xc, .slice ya t2.length yc] 27))); have at1 : AtS (w3.alloc (.cells #[.slice xa t1.length xc, .slice ya t2.length yc] 27)) w3.heap.size 0 [t1, t2] := atS_two hc1 hm1 hr1 hc2 hm2 hr2; have at4 : AtS ((w3.alloc (.cells #[.string (ByteArray.mk #[101]), .string (ByteArray.mk #[112]), .string (ByteArray.mk #[104])] 9)).alloc (.cells #[.slice xa t1.length xc, .slice ya t2.length yc] 27)) (w3.heap.size + 1) 0 [t1, t2] := (by have q := atS_two (W := w3.alloc (.cells #[.string (ByteArray.mk #[101]), .string (ByteArray.mk #[112]), .string (ByteArray.mk #[104])] 9)) hc1 hm1 (hr1.below (cell_below _ _)) hc2 hm2 (hr2.below (cell_below _ _)); rw [show (w3.alloc (.cells #[.string (ByteArray.mk #[101]), .string (ByteArray.mk #[112]), .string (ByteArray.mk #[104])] 9)).heap.size = w3.heap.size + 1 by simp] at q; exact q); have at5 : AtS ((w3.alloc (.cells #[.slice xa t1.length xc, .slice ya t2.length yc] 27)).alloc (.cells #[.string (ByteArray.mk #[101]), .string (ByteArray.mk #[112]), .string (ByteArray.mk #[104])] 9)) w3.heap.size 0 [t1, t2] := at1.below (cell_below _ _); have a3p := cell_keep a3 (.cells #[.slice xa t1.length xc, .slice ya t2.length yc] 27); have a5 : ((w3.alloc (.cells #[.slice xa t1.length xc, .slice ya t2.length yc] 27)).alloc (.cells #[.string (ByteArray.mk #[101]), .string (ByteArray.mk #[112]), .string (ByteArray.mk #[104])] 9)).cell? ⟨w3.heap.size + 1, j, none⟩ = some (.string s) := (by have q := hcl (w3.alloc (.cells #[.slice xa t1.length xc, .slice ya t2.length yc] 27)); rw [show (w3.alloc (.cells #[.slice xa t1.length xc, .slice ya t2.length yc] 27)).heap.size = w3.heap.size + 1 by simp] at q; exact q))
    | (go_at_call 79; have hx := hG1; refine (term_any R (p + 1) 4 3 _ (by omega) (by omega) (by omega) (by omega) (by omega) (by first | exact hR1 | exact hR1.alloc _)).mono ?_; rintro e w2 ⟨v1, t1, p1, rfl, ho1, hl1, hh1, hD1, hR2, hp1, hG2⟩; obtain ⟨xa, xc, rfl, hc1, hm1, hr1⟩ := shape3 ho1; have a2 := hcl w2; have ho1b := OwnC.base ho1 (base' := w.heap.size) (by first | omega | (simp; omega)); have hG2' : w1.grownBy w2 (some R) := (by first | exact hG2 | exact grown_first hG2); have hs12 := hG2'.size; (try (have c2 := cell_grown hG2 c1 (by omega))); (try (have c2 := cell_grown hG2 a1 (by omega))))
    | (go_at_call 39; refine (pick_any R p 3 _ (by omega) (by omega) (by omega) (by first | exact hd | exact hd.alloc _)).mono ?_; rintro e w1 ⟨r, rfl, h0, h1, hR1, hG1⟩; obtain ⟨j, rfl⟩ := Int.eq_ofNat_of_zero_le h0; have hj : j < 3 := (by omega); obtain ⟨s, hs, hcl⟩ := hn3 j hj; have a1 := hcl w1; have hG1' : w.grownBy w1 (some R) := (by first | exact grown_undrew hG1 | exact grown_undrew (grown_first hG1)); have hs01 := hG1'.size; (try (have c1 : w1.cell? ⟨w.heap.size, j, none⟩ = some (.string s) := cell_grown hG1 (hcl w.drew) (by show w.heap.size ≠ R; omega)))))
  all_goals
    go_wp2
    go_ret
    exact drew_mk (ho5.base (by have q3 := hG3'.size; simp; omega)) (Nat.zero_le _) (by have := makeOf_le s [t1, t2]; omega) (make_two_dc hs hD1 hD2) (hR3.below g5) (by omega) (grown_trans (grown_trans (grown_trans hG1' hG2') hG3') (grown_of g5))
end Go.Proofs.Ytmiofbifffnocaa
