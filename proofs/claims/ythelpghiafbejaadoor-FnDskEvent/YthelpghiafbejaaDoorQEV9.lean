/- What is drawn for lines of what happens; the walk of FnDskEvent. -/
import Derived.Test.YthelpghiafbejaaDoorQEV8
import Derived.Test.YthelpghiafbejaaDoorQBT1
import Derived.Test.YthelpghiafbejaaDoorQD6L1
namespace Go.Proofs.YthelpghiafbejaaDoor
open Go.RowKit
set_option linter.unusedVariables false
set_option linter.unusedSimpArgs false

theorem evText_len {k a p v : Nat} (hk : k < 9) (ha : a < 100000) (hp : p < 100000) (hv : v < 100000) : (evText k a p v).length ≤ 40 := by
  have h1 := dec_le5 ha
  have h2 := dec_le5 hp
  have h3 := dec_le5 hv
  have h4 := evName_size hk
  rw [mkS_size] at h4
  unfold evText
  split
  · decide
  · split
    · have : (evName 6).length = 4 := rfl
      simp only [List.length_append, List.length_cons, this]
      omega
    · simp only [List.length_append, List.length_cons]
      omega

set_option maxRecDepth 100000 in
set_option maxHeartbeats 2000000 in
theorem l21Line_any (k a p v : Nat) (hk0 : 1 ≤ k) (hk : k < 9) (ha : a < 100000) (hp : p < 100000) (hv : v < 100000) (w : World) :
    Calls Tryd.prog 18 #[.agg #[.int .i64 k, .int .i64 a, .int .i64 p, .int .i64 v]] w fun e w' => e = .returned (.string (mkS (evText k a p v))) ∧ Below w.heap.size w w' := by
  have HT := hide (fun (W : World) => l9Text_any k a p v hk ha hp hv W)
  obtain ⟨d0, d1, d2, d3⟩ := box4 w (.int .i64 k) (.int .i64 a) (.int .i64 p) (.int .i64 v) 23
  have hb0 : Below w.heap.size w (w.alloc (.cells #[.int .i64 k, .int .i64 a, .int .i64 p, .int .i64 v] 23)) := cell_below _ _
  have HI := hide (l1In_any k 1 8 (w.alloc (.cells #[.int .i64 k, .int .i64 a, .int .i64 p, .int .i64 v] 23)))
  have hd : decide ((1 : Int) ≤ (k : Int) ∧ (k : Int) ≤ 8) = true := by rw [decide_eq_true_eq]; omega
  rw [hd] at HI
  clear hd
  go_enter Tryd.func18, Tryd.ntmps18
  go_upto_region 1 with fail
  generalize w.alloc (.cells #[.int .i64 k, .int .i64 a, .int .i64 p, .int .i64 v] 23) = W at hb0 d0 d1 d2 d3 HI ⊢
  have hx := HI
  go_wp2_with fail
  refine (unhide HI).mono ?_
  rintro e w1 ⟨rfl, rfl⟩
  go_wp2_with fail
  refine (unhide HT w1).mono ?_
  rintro e w2 ⟨rfl, hb2⟩
  go_wp2
  go_ret
  exact ⟨rfl, bstep hb0 hb2⟩

def LineDrew (w : World) (n : Nat) (e : Ending) (w' : World) : Prop := ∃ l : List UInt8, e = .returned (.string (mkS l)) ∧ l.length ≤ n ∧ Below w.heap.size w w'
theorem lineDrew_mk {w w' : World} {n : Nat} {s : ByteArray} (h : s.size ≤ n) (hb : Below w.heap.size w w') : LineDrew w n (.returned (.string s)) w' :=
  ⟨bl s, by rw [mkS_bl], by rw [bl_size]; exact h, hb⟩
def nineS : List ByteArray := [⟨#[]⟩, ⟨#[97, 115, 107, 32]⟩, ⟨#[97, 115, 107, 32, 49]⟩, ⟨#[114, 117, 110]⟩, ⟨#[114, 117, 110, 32, 48, 49]⟩, ⟨#[98, 101, 110, 100, 32, 49, 32, 50]⟩, ⟨#[104, 101, 97, 114, 32, 45, 49]⟩, ⟨#[104, 101, 97, 114, 32, 49, 48, 48, 48, 48, 48]⟩, ⟨#[110, 111, 110, 101]⟩]
theorem lit9S (j : Nat) (hj : j < 9) : ∃ x : ByteArray, x.size ≤ 11 ∧ ∀ (W w2 : World) (R : Nat) (o : Obj), o = .cells (nineS.map Value.string).toArray 9 → R < W.heap.size → (W.alloc o).grownBy w2 (some R) → w2.cell? ⟨W.heap.size, j, none⟩ = some (.string x) := by
  have hb : ∀ x ∈ nineS, x.size ≤ 11 := by decide
  have hl : nineS.length = 9 := rfl
  have hx := hb _ (List.getElem_mem (l := nineS) (n := j) (by rw [hl]; exact hj))
  exact ⟨nineS[j]'(by rw [hl]; exact hj), hx, fun W w2 R o ho hR hg => by subst ho; exact hg.cell (lit_strs W nineS 9 j (by rw [hl]; exact hj)) (by simp; omega)⟩

set_option maxRecDepth 100000 in
set_option maxHeartbeats 4000000 in
theorem drawDskEvent_any (ao : Option Addr) (len cap : Nat) (z : Nat → Int) (w : World) (h : Bin w ao len cap z) :
    Calls Tryd.prog 8 #[.slice ao len cap] w (LineDrew w 100) := by
  go_enter Tryd.func8, Tryd.ntmps8
  go_wp2_with fail
  refine (open_any ao len cap z _ h).mono ?_
  rintro e w1 ⟨rfl, hR1, hb1⟩
  go_wp2_with fail
  refine (pick_any w.heap.size 0 8 _ (by omega) (by omega) (by omega) hR1).mono ?_
  rintro e w2 ⟨r1, rfl, h10, h11, hR2, hG2⟩
  have hB2 : Below w.heap.size w w2 := hb1.grown hG2 hb1.size (fun k e => by cases e; exact Nat.le_refl _)
  clear hG2 hb1 hR1
  go_wp2_with fail
  refine (pick_any w.heap.size (0 + 1) 5 _ (by omega) (by omega) (by omega) hR2).mono ?_
  rintro e w3 ⟨r2, rfl, h20, h21, hR3, hG3⟩
  have hB3 : Below w.heap.size w w3 := hB2.grown hG3 hB2.size (fun k e => by cases e; exact Nat.le_refl _)
  clear hG3 hB2 hR2
  go_wp2_with fail
  refine (pick_any w.heap.size (0 + 1 + 1) 300 _ (by omega) (by omega) (by omega) hR3).mono ?_
  rintro e w4 ⟨r3, rfl, h30, h31, hR4, hG4⟩
  have hB4 : Below w.heap.size w w4 := hB3.grown hG4 hB3.size (fun k e => by cases e; exact Nat.le_refl _)
  clear hG4 hB3 hR3
  go_wp2_with fail
  refine (pick_any w.heap.size (0 + 1 + 1 + 1) 300 _ (by omega) (by omega) (by omega) hR4).mono ?_
  rintro e w5 ⟨r4, rfl, h40, h41, hR5, hG5⟩
  have hB5 : Below w.heap.size w w5 := hB4.grown hG5 hB4.size (fun k e => by cases e; exact Nat.le_refl _)
  clear hG5 hB4 hR4
  obtain ⟨k, hk⟩ := Int.eq_ofNat_of_zero_le (show 0 ≤ 1 + r1 by omega)
  obtain ⟨a, rfl⟩ := Int.eq_ofNat_of_zero_le h20
  obtain ⟨p, rfl⟩ := Int.eq_ofNat_of_zero_le h30
  obtain ⟨v, rfl⟩ := Int.eq_ofNat_of_zero_le h40
  have HL := hide (l21Line_any k a p v (by omega) (by omega) (by omega) (by omega) (by omega) w5)
  have hsz := evText_len (k := k) (a := a) (p := p) (v := v) (by omega) (by omega) (by omega) (by omega)
  obtain ⟨s, hs⟩ : ∃ s, s = mkS (evText k a p v) := ⟨_, rfl⟩
  have hsz2 : s.size ≤ 40 := by rw [hs, mkS_size]; exact hsz
  rw [← hs] at HL
  clear hs hsz
  have h1b : (1 : Int) + r1 = (k : Int) := hk
  clear hk
  go_wp2_with fail
  refine (unhide HL).mono ?_
  rintro e w6 ⟨rfl, hb6⟩
  have hB6 := bstep hB5 hb6
  have hR6 : Rd w6 w.heap.size (0 + 1 + 1 + 1 + 1) := hR5.keep (fun k hk => hb6.block k (by have := hR5.lt; omega))
  clear HL hB5 hR5 hb6 h1b h10 h11 h20 h21 h30 h31 h40 h41
  go_wp2_with fail
  refine (pick_any w.heap.size (0 + 1 + 1 + 1 + 1) 4 _ (by omega) (by omega) (by omega) hR6).mono ?_
  rintro e w7 ⟨r4, rfl, h40, h41, hR4, hG4⟩
  have hB4 : Below w.heap.size w w7 := hB6.grown hG4 hB6.size (fun k e => by cases e; exact Nat.le_refl _)
  clear hR6 hG4 hB6
  rcases (show r4 = 0 ∨ r4 = 1 ∨ r4 = 2 ∨ r4 = 3 by omega) with rfl | rfl | rfl | rfl
  · go_wp2_with fail
    refine (l20Bent_any w.heap.size (0 + 1 + 1 + 1 + 1 + 1) s _ (by omega) (by omega) hR4).mono ?_
    rintro e w8 ⟨u, p5, rfl, hu, _, _, hR5, hG5⟩
    have hB5 : Below w.heap.size w w8 := hB4.grown hG5 hB4.size (fun k e => by cases e; exact Nat.le_refl _)
    have FIN := hide (lineDrew_mk (n := 100) (show u.size ≤ 100 by omega) hB5)
    clear hG5 hR5 hR4 hB5
    go_wp2
    go_ret
    exact unhide FIN
  · go_wp2_with fail
    refine (pick_any w.heap.size (0 + 1 + 1 + 1 + 1 + 1) 9 _ (by omega) (by omega) (by omega) (hR4.alloc _)).mono ?_
    rintro e w8 ⟨r5, rfl, h50, h51, hR5, hG5⟩
    obtain ⟨j, rfl⟩ := Int.eq_ofNat_of_zero_le h50
    obtain ⟨x, hx, hlit⟩ := lit9S j (by omega)
    have hc := hlit w7 w8 w.heap.size _ rfl hR4.lt hG5
    have hB5 : Below w.heap.size w w8 := (bstep hB4 (cell_below _ _)).grown hG5 (by have := hB4.size; simp; omega) (fun k e => by cases e; exact Nat.le_refl _)
    have FIN := hide (lineDrew_mk (n := 100) (show x.size ≤ 100 by omega) hB5)
    clear hlit hG5 hR5 hR4 hB5
    go_wp2
    go_ret
    exact unhide FIN
  · have FIN := hide (lineDrew_mk (n := 100) (show s.size ≤ 100 by omega) hB4)
    clear hR4 hB4
    go_wp2
    go_ret
    exact unhide FIN
  · have FIN := hide (lineDrew_mk (n := 100) (show s.size ≤ 100 by omega) hB4)
    clear hR4 hB4
    go_wp2
    go_ret
    exact unhide FIN

theorem evOf_range {l : List UInt8} {k a p v : Int} (h : evOf l = some (k, a, p, v)) : 1 ≤ k ∧ k ≤ 8 ∧ 0 ≤ a ∧ 0 ≤ p := by
  unfold evOf at h
  split at h
  · cases h
  · rename_i w ws hc
    have hk := evKind_le w
    by_cases h0 : evKind w = 0
    · rw [h0] at h; cases h
    · obtain ⟨he, q0, q1, q2, _⟩ := evArgs_spArgs h0 hk h
      simp only [Prod.mk.injEq] at he
      obtain ⟨rfl, rfl, rfl, rfl⟩ := he
      omega
theorem more_words : 4 ≤ (cutW [49, 32, 49, 32, 49, 32, 49]).length := by decide
theorem evL_more (l : List UInt8) : evL (l ++ [32, 49, 32, 49, 32, 49, 32, 49]) = none := by
  unfold evL
  split
  · exact evOf_more l [49, 32, 49, 32, 49, 32, 49] more_words
  · rfl

set_option maxRecDepth 100000 in
set_option maxHeartbeats 4000000 in
theorem FnDskEvent_walk (ao : Option Addr) (la ca : Nat) (za : Nat → Int) (w : World) (ha : Bin w ao la ca za) (hT : TenT w) (hE : ErrG w) :
    Calls Tryd.prog 4 #[.slice ao la ca] w fun e w' => e = .returned (.bool true) ∧ Below w.heap.size w w' := by
  have hma : la ≤ 9223372036854775807 := by have := ha.1; have := ha.2.1; unfold maxLen at this; omega
  by_cases hbig : la ≤ 1048576
  · have HD := hide (drawDskEvent_any ao la ca za w ha)
    have HTE := hide (fun (W : World) (hW : Below w.heap.size w W) => And.intro (hT.below hW) (hE.below hW))
    clear ha hT hE
    go_enter Tryd.func4, Tryd.ntmps4
    go_wp2_with fail
    refine (unhide HD).mono ?_
    rintro e w1 ⟨l, rfl, hl, hb1⟩
    clear HD
    have hs := mkS_size l
    have HS := hide (fun (W : World) => specDskEvent_any l (by omega) W)
    have HI := hide (implDskEvent_any l (by omega) w1 (unhide HTE w1 hb1).1 (unhide HTE w1 hb1).2)
    have HM := hide (fun (W : World) (hW : Below w.heap.size w W) => implDskEvent_any (l ++ [32, 49, 32, 49, 32, 49, 32, 49]) (by simp; omega) W (unhide HTE W hW).1 (unhide HTE W hW).2)
    rw [evL_more, show evV none = .tuple #[.agg #[.int .i64 0, .int .i64 0, .int .i64 0, .int .i64 0], .bool false] from rfl] at HM
    obtain ⟨k, a, p, v, b, hv, hb⟩ : ∃ (k a p v : Int) (b : Bool), evV (evL l) = .tuple #[.agg #[.int .i64 k, .int .i64 a, .int .i64 p, .int .i64 v], .bool b] ∧ ((b = false ∧ k = 0 ∧ a = 0 ∧ p = 0 ∧ v = 0) ∨ (b = true ∧ 1 ≤ k ∧ k ≤ 8 ∧ 0 ≤ a ∧ 0 ≤ p)) := by
      cases he : evL l with
      | none => exact ⟨0, 0, 0, 0, false, rfl, .inl ⟨rfl, rfl, rfl, rfl, rfl⟩⟩
      | some q =>
        refine ⟨q.1, q.2.1, q.2.2.1, q.2.2.2, true, rfl, .inr ⟨rfl, ?_⟩⟩
        unfold evL at he
        split at he
        · exact evOf_range he
        · cases he
    rw [hv] at HS HI
    have hcat : mkS l ++ ({ data := #[32, 49, 32, 49, 32, 49, 32, 49] } : ByteArray) = mkS (l ++ [32, 49, 32, 49, 32, 49, 32, 49]) := (mkS_app l [32, 49, 32, 49, 32, 49, 32, 49]).symm
    have hsz : ¬ (l.length + 8 > 9223372036854775807) := by omega
    have hbb : (b != b) = false := by simp
    clear hv HTE
    go_wp2_with fail
    refine (unhide HI).mono ?_
    rintro e w2 ⟨rfl, hb2⟩
    have hB2 := bstep hb1 hb2
    have hB3 := bstep hB2 (cell_below w2 (.cells #[.int .i64 k, .int .i64 a, .int .i64 p, .int .i64 v] 23))
    have hw0 := World.alloc_heap_new w2 (.cells #[.int .i64 k, .int .i64 a, .int .i64 p, .int .i64 v] 23)
    clear HI hb1 hb2 hB2
    go_wp2_with fail
    generalize w2.alloc (.cells #[.int .i64 k, .int .i64 a, .int .i64 p, .int .i64 v] 23) = w3 at hB3 hw0 ⊢
    generalize w2.heap.size = E at hw0 ⊢
    refine (unhide HS w3).mono ?_
    rintro e w4 ⟨rfl, hb4⟩
    have hw1 := (hb4.block _ (Array.getElem?_eq_some_iff.1 hw0).1).trans hw0
    have hb5 := cell_below w4 (.cells #[.int .i64 k, .int .i64 a, .int .i64 p, .int .i64 v] 23)
    have hw2 := (hb5.block _ (Array.getElem?_eq_some_iff.1 hw1).1).trans hw1
    have hw3 := World.alloc_heap_new w4 (.cells #[.int .i64 k, .int .i64 a, .int .i64 p, .int .i64 v] 23)
    have hB5 := bstep (bstep hB3 hb4) hb5
    clear hw0 hw1 hb4 hB3 hb5 HS
    go_upto_region 6 with fail
    generalize w4.alloc (.cells #[.int .i64 k, .int .i64 a, .int .i64 p, .int .i64 v] 23) = w5 at *
    obtain ⟨a0, a1, a2, a3, _, _, _, _⟩ := res4 hw2
    obtain ⟨b0, b1, b2, b3, _, _, _, _⟩ := res4 hw3
    have HM5 := hide (unhide HM w5 hB5)
    have HB := hide hB5
    clear HM hB5 hw3
    have e0 : (k == k) = true := by simp
    have e1 : (a == a) = true := by simp
    have e2 : (p == p) = true := by simp
    have e3 : (v == v) = true := by simp
    go_wp2_with fail
    refine (unhide HM5).mono ?_
    rintro e w6 ⟨rfl, hb6⟩
    have hw4 := (hb6.block _ (Array.getElem?_eq_some_iff.1 hw2).1).trans hw2
    have hb7 := cell_below w6 (.cells #[.int .i64 0, .int .i64 0, .int .i64 0, .int .i64 0] 23)
    have hw5 := (hb7.block _ (Array.getElem?_eq_some_iff.1 hw4).1).trans hw4
    have HB7 := hide (bstep (bstep (unhide HB) hb6) hb7)
    clear HM5 HB hw2 hw4 hb6 hb7 a0 a1 a2 a3 b0 b1 b2 b3
    go_upto_if 39 with fail
    generalize w6.alloc (.cells #[.int .i64 0, .int .i64 0, .int .i64 0, .int .i64 0] 23) = w7 at *
    obtain ⟨a0, a1, a2, a3, _, _, _, _⟩ := res4 hw5
    rcases hb with ⟨rfl, rfl, rfl, rfl, rfl⟩ | ⟨rfl, hk1, hk8, ha0, hp0⟩
    · have HC := hide (caOk_any w7)
      go_wp2_with fail
      refine (unhide HC).mono ?_
      rintro e w8 ⟨rfl, hb8⟩
      go_wp2
      go_ret
      exact ⟨rfl, bstep (unhide HB7) hb8⟩
    · go_wp2
      go_ret
      exact ⟨rfl, unhide HB7⟩
  · have hn : ¬ ((la : Int) ≤ 1048576) := by omega
    go_enter Tryd.func4, Tryd.ntmps4
    go_wp2
    go_ret
    exact ⟨rfl, Below.refl _ _⟩
end Go.Proofs.YthelpghiafbejaaDoor
