/- The specification reads what happens. -/
import Derived.Test.YthelpghiafbejaaDoorQEV2
namespace Go.Proofs.YthelpghiafbejaaDoor
open Go.RowKit
set_option linter.unusedVariables false
set_option linter.unusedSimpArgs false

/-- What DskEvent answers. -/
def evV : Option (Int × Int × Int × Int) → Value
  | none => .tuple #[.agg #[.int .i64 0, .int .i64 0, .int .i64 0, .int .i64 0], .bool false]
  | some (k, a, p, v) => .tuple #[.agg #[.int .i64 k, .int .i64 a, .int .i64 p, .int .i64 v], .bool true]
/-- What a line of any length says. -/
def evL (l : List UInt8) : Option (Int × Int × Int × Int) := if l.length ≤ 40 then evOf l else none

theorem spVal_lt : ∀ (n : Nat) (d : List UInt8), d.length = n → (∀ b ∈ d, dig b = true) → 0 ≤ spVal d ∧ spVal d < 10 ^ n := by
  intro n
  induction n with
  | zero => intro d hd _; obtain rfl := List.length_eq_zero_iff.1 hd; simp [spVal]
  | succ n ih =>
    intro d hd hall
    obtain ⟨d', c, rfl⟩ : ∃ d' c, d = d' ++ [c] := by
      rcases List.eq_nil_or_concat d with rfl | ⟨d', c, rfl⟩
      · simp at hd
      · exact ⟨d', c, by simp⟩
    have := ih d' (by simp at hd; exact hd) (fun b hb => hall b (by simp [hb]))
    have hb := (dig_iff _).1 (hall c (by simp))
    rw [spVal_snoc, Int.pow_succ]
    omega
theorem spNumW_range (s : List UInt8) : -1 ≤ spNumW s ∧ spNumW s < 100000 := by
  unfold spNumW
  split
  · omega
  · rename_i h
    have hall : ∀ b ∈ s, dig b = true := by
      have h1 : s.takeWhile dig = s := by
        have h2 := List.takeWhile_append_dropWhile (p := dig) (l := s)
        have h3 := congrArg List.length h2
        rw [List.length_append] at h3
        have h4 : s.dropWhile dig = [] := List.length_eq_zero_iff.1 (by omega)
        rw [h4, List.append_nil] at h2
        exact h2
      have h2 := List.all_takeWhile (p := dig) (l := s)
      rw [List.all_eq_true, h1] at h2
      exact h2
    unfold spNum
    split
    · omega
    · have := spVal_lt s.length s rfl hall
      have h10 : (10 : Int) ^ s.length ≤ 100000 := by
        have : s.length = 0 ∨ s.length = 1 ∨ s.length = 2 ∨ s.length = 3 ∨ s.length = 4 ∨ s.length = 5 := by omega
        rcases this with e | e | e | e | e | e <;> rw [e] <;> decide
      omega
theorem spAt_range (ws : List (List UInt8)) (i : Nat) : -1 ≤ spAt ws i ∧ spAt ws i < 100000 := by
  unfold spAt
  split
  · exact spNumW_range _
  · omega

theorem res4 {W : World} {R : Nat} {T : TypeId} {x0 x1 x2 x3 : Value} (h : W.heap[R]? = some (.cells #[x0, x1, x2, x3] T)) :
    W.cell? ⟨R, 0, none⟩ = some x0 ∧ W.cell? ⟨R, 1, none⟩ = some x1 ∧ W.cell? ⟨R, 2, none⟩ = some x2 ∧ W.cell? ⟨R, 3, none⟩ = some x3 ∧ W.frozen? ⟨R, 0, none⟩ = false ∧ W.frozen? ⟨R, 1, none⟩ = false ∧ W.frozen? ⟨R, 2, none⟩ = false ∧ W.frozen? ⟨R, 3, none⟩ = false := by
  simp [World.cell?, World.frozen?, h]

/-- While a line is read: the event at E, the answer's place, the words. -/
structure EvS (w W : World) (E g : Nat) (k a p v : Int) (ws : List (List UInt8)) : Prop where
  e : W.heap[E]? = some (.cells #[.int .i64 k, .int .i64 a, .int .i64 p, .int .i64 v] 23)
  r : W.heap[w.heap.size]? = some (.cells #[.int .i64 0, .int .i64 0, .int .i64 0, .int .i64 0] 23)
  a : AtW W g 0 ws
  b : Below w.heap.size w W
  er : w.heap.size < E
  ge : g ≠ E
theorem set_blk {W : World} {E i : Nat} {cs : Array Value} {T : TypeId} (h : W.heap[E]? = some (.cells cs T)) (v : Value) : (W.setCell ⟨E, i, none⟩ v).heap[E]? = some (.cells (cs.set! i v) T) := by
  obtain ⟨hlt, hk⟩ := Array.getElem?_eq_some_iff.1 h
  show (W.heap.modify E _)[E]? = _
  rw [Array.getElem?_eq_getElem (by rw [Array.size_modify]; exact hlt), Array.getElem_modify_self, hk]
  rfl
theorem set_other (W : World) {E i j : Nat} (v : Value) (h : j ≠ E) : (W.setCell ⟨E, i, none⟩ v).heap[j]? = W.heap[j]? := Below.heap_setCell _ _ _ _ (by simpa using h)
theorem EvS.keep {w W : World} {E g : Nat} {k a p v k' a' p' v' : Int} {ws : List (List UInt8)} (h : EvS w W E g k a p v ws) (i : Nat) (x : Value)
    (he : (W.setCell ⟨E, i, none⟩ x).heap[E]? = some (.cells #[.int .i64 k', .int .i64 a', .int .i64 p', .int .i64 v'] 23)) : EvS w (W.setCell ⟨E, i, none⟩ x) E g k' a' p' v' ws := by
  refine ⟨he, (set_other W x (by have := h.er; omega)).trans h.r, fun j hj => ?_, h.b.setCell (p := ⟨E, i, none⟩) (by have := h.er; show w.heap.size ≤ E; omega) x, h.er, h.ge⟩
  exact (World.cell?_of_block (a := ⟨g, 0 + j, none⟩) (set_other W x h.ge)).trans (h.a j hj)
theorem EvS.s1 {w W : World} {E g : Nat} {k a p v : Int} {ws : List (List UInt8)} (h : EvS w W E g k a p v ws) (x : Int) : EvS w (W.setCell ⟨E, 1, none⟩ (.int .i64 x)) E g k x p v ws := h.keep 1 _ (set_blk h.e _)
theorem EvS.s2 {w W : World} {E g : Nat} {k a p v : Int} {ws : List (List UInt8)} (h : EvS w W E g k a p v ws) (x : Int) : EvS w (W.setCell ⟨E, 2, none⟩ (.int .i64 x)) E g k a x v ws := h.keep 2 _ (set_blk h.e _)
theorem EvS.s3 {w W : World} {E g : Nat} {k a p v : Int} {ws : List (List UInt8)} (h : EvS w W E g k a p v ws) (x : Int) : EvS w (W.setCell ⟨E, 3, none⟩ (.int .i64 x)) E g k a p x ws := h.keep 3 _ (set_blk h.e _)
theorem below_set4 {b : Nat} {w W : World} (h : Below b w W) (R : Nat) (hR : b ≤ R) (x0 x1 x2 x3 : Value) : Below b w ((((W.setCell ⟨R, 0, none⟩ x0).setCell ⟨R, 1, none⟩ x1).setCell ⟨R, 2, none⟩ x2).setCell ⟨R, 3, none⟩ x3) :=
  (((h.setCell (p := ⟨R, 0, none⟩) hR _).setCell (p := ⟨R, 1, none⟩) hR _).setCell (p := ⟨R, 2, none⟩) hR _).setCell (p := ⟨R, 3, none⟩) hR _
/-- A place for an event, alone. -/
theorem set4_cells {W : World} {R : Nat} {y0 y1 y2 y3 : Value} {T : TypeId} (h : W.heap[R]? = some (.cells #[y0, y1, y2, y3] T)) (x0 x1 x2 x3 : Value) :
    ((((W.setCell ⟨R, 0, none⟩ x0).setCell ⟨R, 1, none⟩ x1).setCell ⟨R, 2, none⟩ x2).setCell ⟨R, 3, none⟩ x3).heap[R]? = some (.cells #[x0, x1, x2, x3] T) :=
  set_blk (set_blk (set_blk (set_blk h x0) x1) x2) x3

theorem spAt_some {ws : List (List UInt8)} {i : Nat} (h : i < ws.length) : spAt ws i = spNumW ws[i] := by
  unfold spAt
  rw [List.getElem?_eq_getElem h]
theorem spAt_none {ws : List (List UInt8)} {i : Nat} (h : ¬ i < ws.length) : spAt ws i = 0 := by
  unfold spAt
  rw [List.getElem?_eq_none (by omega)]

set_option maxRecDepth 100000 in
set_option maxHeartbeats 4000000 in
theorem specDskEvent_any (l : List UInt8) (hl : l.length ≤ 1048576) (w : World) :
    Calls Tryd.prog 5 #[.string (mkS l)] w fun e w' => e = .returned (evV (evL l)) ∧ Below w.heap.size w w' := by
  have hs := mkS_size l
  have hb0 := cell_below w (.cells #[.int .i64 0, .int .i64 0, .int .i64 0, .int .i64 0] 23)
  have hR0 := World.alloc_heap_new w (.cells #[.int .i64 0, .int .i64 0, .int .i64 0, .int .i64 0] 23)
  have HW := hide (fun (W : World) => l3Words_any l hl W)
  have HE := hide (fun (h : l.length ≤ 40) => spOf_evOf l h)
  have HL := hide (joinW_cut l)
  have HSM := hide (cutW_small l)
  have HLE := hide (cutW_len l)
  go_enter Tryd.func5, Tryd.ntmps5
  go_wp2_with fail
  generalize w.alloc (.cells #[.int .i64 0, .int .i64 0, .int .i64 0, .int .i64 0] 23) = W at hb0 hR0 ⊢
  refine (unhide HW W).mono ?_
  rintro e w1 ⟨v, rfl, hO, hb1⟩
  obtain ⟨g, cap, rfl, hA, hg0, hg1⟩ := hO.shape (cutW_ne l)
  have hl0 : w.heap.size < W.heap.size := (Array.getElem?_eq_some_iff.1 hR0).1
  have hR1 := (hb1.block w.heap.size hl0).trans hR0
  have hB1 := bstep hb0 hb1
  obtain ⟨w0, ws, hc⟩ : ∃ w0 ws, cutW l = w0 :: ws := by
    cases h : cutW l with
    | nil => exact absurd h (cutW_ne l)
    | cons a b => exact ⟨a, b, rfl⟩
  rw [hc] at hA HSM HLE ⊢
  have HC := hide hc
  have c0 := hA 0 (by simp)
  have hlen : (w0 :: ws).length = ws.length + 1 := by simp
  have hwl : ws.length ≤ 1048576 := by have := unhide HLE; simp at this; omega
  rw [hlen]
  have HK := hide (l9Kind_any w0 w1)
  have HA := hide hA
  clear HW hO hb1 hb0 hA hc HLE
  go_wp2_with fail
  refine (unhide HK).mono ?_
  rintro e w2 ⟨rfl, hb2⟩
  go_upto_region 3 with fail
  have hR2 := (hb2.block w.heap.size (Array.getElem?_eq_some_iff.1 hR1).1).trans hR1
  have hB2 := bstep hB1 hb2
  have hl2 : w.heap.size < w2.heap.size := (Array.getElem?_eq_some_iff.1 hR2).1
  have hb3 := cell_below w2 (.cells #[.int .i64 (evKind w0 : Nat), .int .i64 0, .int .i64 0, .int .i64 0] 23)
  have hE3 := World.alloc_heap_new w2 (.cells #[.int .i64 (evKind w0 : Nat), .int .i64 0, .int .i64 0, .int .i64 0] 23)
  have hR3 := (hb3.block w.heap.size hl2).trans hR2
  have hA3 := ((unhide HA).below hb2).below hb3
  have hB3 := bstep hB2 hb3
  generalize w2.alloc (.cells #[.int .i64 (evKind w0 : Nat), .int .i64 0, .int .i64 0, .int .i64 0] 23) = w3 at hE3 hR3 hA3 hB3 ⊢
  have hEr : w.heap.size < w2.heap.size := by omega
  have hgE : g ≠ w2.heap.size := by have := hb2.size; omega
  generalize w2.heap.size = E at hE3 hEr hgE ⊢
  have hk8 := evKind_le w0
  have hS : EvS w w3 E g (evKind w0 : Nat) 0 0 0 (w0 :: ws) := ⟨hE3, hR3, hA3, hB3, hEr, hgE⟩
  obtain ⟨e0, e1, e2, e3, f0, f1, f2, f3⟩ := res4 hE3
  obtain ⟨r0, r1, r2, r3, q0, q1, q2, q3⟩ := res4 hR3
  have HS := hide hS
  clear HK HA hb2 hb3 hl2 hB2 hR2 hR1 hR0 hB1 c0 hg0 hg1 hl0 hS hE3 hA3
  by_cases hk0 : evKind w0 = 0
  · have HV := hide (show evV (evL l) = .tuple #[.agg #[.int .i64 0, .int .i64 0, .int .i64 0, .int .i64 0], .bool false] from by
      unfold evL
      split
      · unfold evOf; rw [unhide HC]; simp only; rw [hk0]; rfl
      · rfl)
    rw [hk0] at e0 ⊢
    have HB := hide hB3
    have HR := hide hR3
    clear hB3 hR3
    go_wp2
    obtain ⟨r0, r1, r2, r3, q0, q1, q2, q3⟩ := res4 (set4_cells (unhide HR) (.int .i64 0) (.int .i64 0) (.int .i64 0) (.int .i64 0))
    exact bodyPost_ret (v := .tuple #[.agg #[.int .i64 0, .int .i64 0, .int .i64 0, .int .i64 0], .bool false]) (by simp [results, Tryd.results5, go_sem, r0, r1, r2, r3]) rfl ⟨by rw [unhide HV], below_set4 (unhide HB) _ (Nat.le_refl _) _ _ _ _⟩
  · have hk0b : (((evKind w0 : Nat) : Int) == 0) = false := beq_eq_false_iff_ne.2 (by omega)
    by_cases hlong : 40 < l.length
    · have HV := hide (show evV (evL l) = .tuple #[.agg #[.int .i64 0, .int .i64 0, .int .i64 0, .int .i64 0], .bool false] from by
        unfold evL; rw [if_neg (by omega)]; rfl)
      have HB := hide hB3
      have HR := hide hR3
      clear hB3 hR3
      go_wp2
      obtain ⟨r0, r1, r2, r3, q0, q1, q2, q3⟩ := res4 (set4_cells (unhide HR) (.int .i64 0) (.int .i64 0) (.int .i64 0) (.int .i64 0))
      exact bodyPost_ret (v := .tuple #[.agg #[.int .i64 0, .int .i64 0, .int .i64 0, .int .i64 0], .bool false]) (by simp [results, Tryd.results5, go_sem, r0, r1, r2, r3]) rfl ⟨by rw [unhide HV], below_set4 (unhide HB) _ (Nat.le_refl _) _ _ _ _⟩
    · have HSP := hide (show evL l = spOf l from by unfold evL; rw [if_pos (by omega)]; exact (unhide HE (by omega)).symm)
      have HSZ := hide (fun (x : List UInt8) (hx : x ∈ w0 :: ws) => show x.length ≤ 1000000000 from by have := unhide HSM x hx; omega)
      clear HE HSM HL
      go_upto_if 24 with fail
      go_cut [] from 22 to 29 (fun wx => EvS w wx E g (evKind w0 : Nat) (spAt ws 0) 0 0 (w0 :: ws))
      case first =>
        have hS := unhide HS
        clear HSP hlong hk0 hk0b
        by_cases hn : 0 < ws.length
        · have hc := hS.a 1 (by simp; omega)
          rw [Nat.zero_add] at hc
          simp only [List.getElem_cons_succ] at hc
          have HN := hide (l9Num_any ws[0] (unhide HSZ _ (by simp)) w3)
          have hlt : ((1 : Nat) : Int) < (ws.length : Int) + 1 := by omega
          have FIN := hide (hS.s1 (spNumW ws[0]))
          have HX := hide (spAt_some hn)
          clear hS
          generalize ws[0] = x at *
          go_wp2_with fail
          refine (unhide HN).mono ?_
          rintro e w4 ⟨rfl, rfl⟩
          go_wp2
          go_meet
          rw [unhide HX]
          exact unhide FIN
        · have FIN := hide hS
          have HX := hide (spAt_none hn)
          clear hS
          go_wp2
          go_meet
          rw [unhide HX]
          exact unhide FIN
      case rest =>
        clear HS
        have HS := hide hcut
        obtain ⟨e0, e1, e2, e3, f0, f1, f2, f3⟩ := res4 hcut.e
        clear hcut
        generalize wc = W1 at *
        go_upto_if 32 with fail
        go_cut [] from 30 to 37 (fun wx => EvS w wx E g (evKind w0 : Nat) (spAt ws 0) (spAt ws 1) 0 (w0 :: ws))
        case first =>
          have hS := unhide HS
          clear HSP hlong hk0 hk0b
          by_cases hn : 1 < ws.length
          · have hc := hS.a 2 (by simp; omega)
            rw [Nat.zero_add] at hc
            simp only [List.getElem_cons_succ] at hc
            have HN := hide (l9Num_any ws[1] (unhide HSZ _ (by simp)) W1)
            have hlt : ((2 : Nat) : Int) < (ws.length : Int) + 1 := by omega
            have FIN := hide (hS.s2 (spNumW ws[1]))
            have HX := hide (spAt_some hn)
            clear hS
            generalize ws[1] = x at *
            go_wp2_with fail
            refine (unhide HN).mono ?_
            rintro e w4 ⟨rfl, rfl⟩
            go_wp2
            go_meet
            rw [unhide HX]
            exact unhide FIN
          · have FIN := hide hS
            have HX := hide (spAt_none hn)
            clear hS
            go_wp2
            go_meet
            rw [unhide HX]
            exact unhide FIN
        case rest =>
          clear HS
          have HS := hide hcut
          obtain ⟨e0, e1, e2, e3, f0, f1, f2, f3⟩ := res4 hcut.e
          clear hcut
          generalize wc = W2 at *
          go_upto_if 40 with fail
          go_cut [] from 38 to 45 (fun wx => EvS w wx E g (evKind w0 : Nat) (spAt ws 0) (spAt ws 1) (spAt ws 2) (w0 :: ws))
          case first =>
            have hS := unhide HS
            clear HSP hlong hk0 hk0b
            by_cases hn : 2 < ws.length
            · have hc := hS.a 3 (by simp; omega)
              rw [Nat.zero_add] at hc
              simp only [List.getElem_cons_succ] at hc
              have HN := hide (l9Num_any ws[2] (unhide HSZ _ (by simp)) W2)
              have hlt : ((3 : Nat) : Int) < (ws.length : Int) + 1 := by omega
              have FIN := hide (hS.s3 (spNumW ws[2]))
              have HX := hide (spAt_some hn)
              clear hS
              generalize ws[2] = x at *
              go_wp2_with fail
              refine (unhide HN).mono ?_
              rintro e w4 ⟨rfl, rfl⟩
              go_wp2
              go_meet
              rw [unhide HX]
              exact unhide FIN
            · have FIN := hide hS
              have HX := hide (spAt_none hn)
              clear hS
              go_wp2
              go_meet
              rw [unhide HX]
              exact unhide FIN
          case rest =>
            clear HS
            have HS := hide hcut
            obtain ⟨e0, e1, e2, e3, f0, f1, f2, f3⟩ := res4 hcut.e
            obtain ⟨r0, r1, r2, r3, q0, q1, q2, q3⟩ := res4 hcut.r
            clear hcut HSZ
            generalize wc = W3 at *
            have ra := spAt_range ws 0
            have rp := spAt_range ws 1
            have rv := spAt_range ws 2
            have HT := hide (fun (k a p v : Nat) (hk : k < 9) (ha : a < 100000) (hp : p < 100000) (hv : v < 100000) (W : World) => l9Text_any k a p v hk ha hp hv W)
            have HSO := hide (show spOf l = if spAt ws 0 < 0 ∨ spAt ws 1 < 0 ∨ spAt ws 2 < 0 ∨ evText (evKind w0) (spAt ws 0).toNat (spAt ws 1).toNat (spAt ws 2).toNat ≠ l then none else some (((evKind w0 : Nat) : Int), spAt ws 0, spAt ws 1, spAt ws 2) from by
              unfold spOf; rw [unhide HC]; simp only; rw [if_neg (by omega)])
            generalize spAt ws 0 = a at *
            generalize spAt ws 1 = b at *
            generalize spAt ws 2 = c at *
            generalize evKind w0 = k at *
            by_cases ha : a < 0
            · have HV := hide (show spOf l = none from by rw [unhide HSO, if_pos (.inl ha)])
              have HB := hide (unhide HS).b
              have HR := hide (unhide HS).r
              go_wp2
              obtain ⟨r0, r1, r2, r3, q0, q1, q2, q3⟩ := res4 (set4_cells (unhide HR) (.int .i64 0) (.int .i64 0) (.int .i64 0) (.int .i64 0))
              exact bodyPost_ret (v := .tuple #[.agg #[.int .i64 0, .int .i64 0, .int .i64 0, .int .i64 0], .bool false]) (by simp [results, Tryd.results5, go_sem, r0, r1, r2, r3]) rfl ⟨by rw [unhide HSP, unhide HV]; rfl, below_set4 (unhide HB) _ (Nat.le_refl _) _ _ _ _⟩
            by_cases hb : b < 0
            · have HV := hide (show spOf l = none from by rw [unhide HSO, if_pos (.inr (.inl hb))])
              have HB := hide (unhide HS).b
              have HR := hide (unhide HS).r
              go_wp2
              obtain ⟨r0, r1, r2, r3, q0, q1, q2, q3⟩ := res4 (set4_cells (unhide HR) (.int .i64 0) (.int .i64 0) (.int .i64 0) (.int .i64 0))
              exact bodyPost_ret (v := .tuple #[.agg #[.int .i64 0, .int .i64 0, .int .i64 0, .int .i64 0], .bool false]) (by simp [results, Tryd.results5, go_sem, r0, r1, r2, r3]) rfl ⟨by rw [unhide HSP, unhide HV]; rfl, below_set4 (unhide HB) _ (Nat.le_refl _) _ _ _ _⟩
            by_cases hc : c < 0
            · have HV := hide (show spOf l = none from by rw [unhide HSO, if_pos (.inr (.inr (.inl hc)))])
              have HB := hide (unhide HS).b
              have HR := hide (unhide HS).r
              go_wp2
              obtain ⟨r0, r1, r2, r3, q0, q1, q2, q3⟩ := res4 (set4_cells (unhide HR) (.int .i64 0) (.int .i64 0) (.int .i64 0) (.int .i64 0))
              exact bodyPost_ret (v := .tuple #[.agg #[.int .i64 0, .int .i64 0, .int .i64 0, .int .i64 0], .bool false]) (by simp [results, Tryd.results5, go_sem, r0, r1, r2, r3]) rfl ⟨by rw [unhide HSP, unhide HV]; rfl, below_set4 (unhide HB) _ (Nat.le_refl _) _ _ _ _⟩
            obtain ⟨a, rfl⟩ := Int.eq_ofNat_of_zero_le (show 0 ≤ a by omega)
            obtain ⟨b, rfl⟩ := Int.eq_ofNat_of_zero_le (show 0 ≤ b by omega)
            obtain ⟨c, rfl⟩ := Int.eq_ofNat_of_zero_le (show 0 ≤ c by omega)
            simp only [Int.toNat_natCast] at HSO
            have HTX := hide (unhide HT k a b c (by omega) (by omega) (by omega) (by omega) W3)
            clear HT
            go_wp2_with fail
            refine (unhide HTX).mono ?_
            rintro e W4 ⟨rfl, hb4⟩
            have hRl := (Array.getElem?_eq_some_iff.1 (unhide HS).r).1
            have hEl := (Array.getElem?_eq_some_iff.1 (unhide HS).e).1
            have hR4 := (hb4.block _ hRl).trans (unhide HS).r
            have hE4 := (hb4.block _ hEl).trans (unhide HS).e
            have HB := hide (bstep (unhide HS).b hb4)
            have HR := hide hR4
            obtain ⟨e0, e1, e2, e3, f0, f1, f2, f3⟩ := res4 hE4
            obtain ⟨r0, r1, r2, r3, q0, q1, q2, q3⟩ := res4 hR4
            clear hR4 hE4 hRl hEl hb4 HTX HS
            by_cases ht : evText k a b c = l
            · have HV := hide (show spOf l = some ((k : Int), (a : Int), (b : Int), (c : Int)) from by rw [unhide HSO, if_neg]; rintro (h | h | h | h) <;> first | omega | exact h ht)
              have heq : ((mkS l).toList == (mkS l).toList) = true := by simp
              rw [ht]
              clear ht HSO
              go_wp2
              obtain ⟨r0, r1, r2, r3, q0, q1, q2, q3⟩ := res4 (set4_cells (unhide HR) (.int .i64 k) (.int .i64 a) (.int .i64 b) (.int .i64 c))
              exact bodyPost_ret (v := .tuple #[.agg #[.int .i64 k, .int .i64 a, .int .i64 b, .int .i64 c], .bool true]) (by simp [results, Tryd.results5, go_sem, r0, r1, r2, r3]) rfl ⟨by rw [unhide HSP, unhide HV]; rfl, below_set4 (unhide HB) _ (Nat.le_refl _) _ _ _ _⟩
            · have HV := hide (show spOf l = none from by rw [unhide HSO, if_pos (.inr (.inr (.inr ht)))])
              have heq := text_ne ht
              clear ht HSO
              generalize mkS (evText k a b c) = u at heq ⊢
              go_wp2
              obtain ⟨r0, r1, r2, r3, q0, q1, q2, q3⟩ := res4 (set4_cells (unhide HR) (.int .i64 0) (.int .i64 0) (.int .i64 0) (.int .i64 0))
              exact bodyPost_ret (v := .tuple #[.agg #[.int .i64 0, .int .i64 0, .int .i64 0, .int .i64 0], .bool false]) (by simp [results, Tryd.results5, go_sem, r0, r1, r2, r3]) rfl ⟨by rw [unhide HSP, unhide HV]; rfl, below_set4 (unhide HB) _ (Nat.le_refl _) _ _ _ _⟩
end Go.Proofs.YthelpghiafbejaaDoor
