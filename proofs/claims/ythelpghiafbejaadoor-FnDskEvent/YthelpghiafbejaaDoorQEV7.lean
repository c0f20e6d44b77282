/- The program reads what happens. -/
import Derived.Test.YthelpghiafbejaaDoorQEV6
namespace Go.Proofs.YthelpghiafbejaaDoor
open Go.RowKit
set_option linter.unusedVariables false
set_option linter.unusedSimpArgs false

def nextW : List (List UInt8) → Option Int
  | [] => none
  | x :: _ => numW x
theorem evArgs_six (ws : List (List UInt8)) (v1 v2 v3 : Int) (h1 : ∀ y, nextW ws = some y → v1 = y) (h2 : ∀ y, nextW ws.tail = some y → v2 = y) (h3 : ∀ y, nextW ws.tail.tail = some y → v3 = y) :
    evArgs 6 ws = if (!(((false || (nextW ws).isNone) || (nextW ws.tail).isNone) || (nextW ws.tail.tail).isNone) && decide (ws.tail.tail.tail = [])) = true then some (6, v1, v2, v3) else none := by
  rcases ws with _ | ⟨x, _ | ⟨y, _ | ⟨z, rest⟩⟩⟩
  · simp [evArgs, nextW]
  · simp [evArgs, nextW]
  · simp [evArgs, nextW]
  · simp only [List.tail_cons, nextW] at h1 h2 h3 ⊢
    cases rest with
    | nil =>
      have H : ∀ q : List UInt8, numW q = none ∨ ∃ v, numW q = some v := fun q => by cases numW q <;> simp
      rcases H x with hx | ⟨a, hx⟩
      · simp [evArgs, hx]
      · rcases H y with hy | ⟨b, hy⟩
        · simp [evArgs, hx, hy]
        · rcases H z with hz | ⟨c, hz⟩
          · simp [evArgs, hx, hy, hz]
          · rw [h1 a hx, h2 b hy, h3 c hz]
            simp [evArgs, hx, hy, hz]
    | cons u t => simp [evArgs]
theorem evArgs_one {k : Nat} (k0 : k ≠ 0) (k1 : k ≠ 1) (k6 : k ≠ 6) (ws : List (List UInt8)) (v1 : Int) (h1 : ∀ y, nextW ws = some y → v1 = y) :
    evArgs k ws = if (!(false || (nextW ws).isNone) && decide (ws.tail = [])) = true then some ((k : Int), v1, 0, 0) else none := by
  rcases ws with _ | ⟨x, _ | ⟨y, rest⟩⟩
  · simp [evArgs, nextW, k0, k1, k6]
  · simp only [List.tail_cons, nextW] at h1 ⊢
    cases hx : numW x with
    | none => simp [evArgs, hx, k0, k1, k6]
    | some a => rw [h1 a hx]; simp [evArgs, hx, k0, k1, k6]
  · simp [evArgs, nextW, k0, k1, k6]
theorem evArgs_ask (ws : List (List UInt8)) : evArgs 1 ws = if (!false && decide (ws = [])) = true then some (1, 0, 0, 0) else none := by
  cases ws <;> simp [evArgs]

/-- The next number, whatever is left. -/
theorem next_any (w0 W : World) (P Q g n o cap : Nat) (ws : List (List UInt8)) (bad : Bool) (h : NumS w0 W P Q g n o cap ws bad) (hall : ∀ x ∈ ws, x.length ≤ 1000) (hl : ws.length ≤ 1000) (hT : TenT w0) (hE : ErrG w0) :
    Calls Tryd.prog 26 #[.pointer (some ⟨P, 0, none⟩), .pointer (some ⟨Q, 0, none⟩)] W fun e w' => ∃ (v : Int) (n' o' cap' : Nat), e = .returned (.int .i64 v) ∧ NumS w0 w' P Q g n' o' cap' ws.tail (bad || (nextW ws).isNone) ∧ (∀ y, nextW ws = some y → v = y) ∧ Kp W w' P Q := by
  cases ws with
  | nil =>
    refine (next_none w0 W P Q g n o cap bad h).mono ?_
    rintro e w' ⟨rfl, h1, h2⟩
    exact ⟨0, n, o, cap, rfl, by simpa [nextW] using h1, fun y hy => (by cases hy), h2⟩
  | cons x r =>
    have hn : n = r.length + 1 := h.hn
    subst hn
    refine (next_some w0 W P Q g o cap x r bad h (hall x (by simp)) (by simp at hl; omega) hT hE).mono ?_
    rintro e w' ⟨v, o', rfl, h1, h2, h3⟩
    exact ⟨v, _, o', _, rfl, h1, h2, h3⟩
theorem NumS.other {w0 W : World} {P Q g n o cap : Nat} {ws : List (List UInt8)} {bad : Bool} (h : NumS w0 W P Q g n o cap ws bad) {E : Nat} (i : Nat) (v : Value) (hP : P ≠ E) (hQ : Q ≠ E) (hg : g ≠ E) (hE : w0.heap.size ≤ E) : NumS w0 (W.setCell ⟨E, i, none⟩ v) P Q g n o cap ws bad :=
  ⟨(set_other W v hP).trans h.hp, (set_other W v hQ).trans h.hq, h.ha.set v hg, h.hn, h.hc, h.hb.setCell (p := ⟨E, i, none⟩) hE _, h.pl, h.ql, h.pq, h.gp, h.gq⟩

set_option maxRecDepth 100000 in
set_option maxHeartbeats 4000000 in
theorem implDskEvent_any (l : List UInt8) (hl : l.length ≤ 1100000) (w : World) (hT : TenT w) (hE : ErrG w) :
    Calls Tryd.prog 6 #[.string (mkS l)] w fun e w' => e = .returned (evV (evL l)) ∧ Below w.heap.size w w' := by
  have hs := mkS_size l
  have hb0 := cell_below w (.cells #[.int .i64 0, .int .i64 0, .int .i64 0, .int .i64 0] 23)
  have hR0 := World.alloc_heap_new w (.cells #[.int .i64 0, .int .i64 0, .int .i64 0, .int .i64 0] 23)
  have hl0 : w.heap.size < (w.alloc (.cells #[.int .i64 0, .int .i64 0, .int .i64 0, .int .i64 0] 23)).heap.size := by simp
  go_enter Tryd.func6, Tryd.ntmps6
  by_cases hlong : 40 < l.length
  · have HV := hide (show evV (evL l) = .tuple #[.agg #[.int .i64 0, .int .i64 0, .int .i64 0, .int .i64 0], .bool false] from by
      unfold evL; rw [if_neg (by omega)]; rfl)
    obtain ⟨r0, r1, r2, r3, q0, q1, q2, q3⟩ := res4 hR0
    have HB := hide hb0
    have HR := hide hR0
    clear hb0 hR0 hT hE
    go_wp2
    generalize w.alloc (.cells #[.int .i64 0, .int .i64 0, .int .i64 0, .int .i64 0] 23) = W at *
    obtain ⟨r0, r1, r2, r3, q0, q1, q2, q3⟩ := res4 (unhide HR)
    exact bodyPost_ret (v := .tuple #[.agg #[.int .i64 0, .int .i64 0, .int .i64 0, .int .i64 0], .bool false]) (by simp [results, Tryd.results6, go_sem, r0, r1, r2, r3]) rfl ⟨by rw [unhide HV], unhide HB⟩
  · have HCL := hide (fun (W : World) => cutLine_any l (by omega) W)
    have HLEN := hide (cutW_len l)
    have HSM := hide (cutW_small l)
    have HTE := hide (And.intro hT hE)
    clear hT hE
    go_wp2_with fail
    generalize w.alloc (.cells #[.int .i64 0, .int .i64 0, .int .i64 0, .int .i64 0] 23) = W at hb0 hR0 hl0 ⊢
    refine (unhide HCL W).mono ?_
    rintro e w1 ⟨v, rfl, hO, hb1⟩
    clear HCL
    obtain ⟨g, cap, rfl, hA, hg0, hg1⟩ := hO.shape (cutW_ne l)
    have hcp : (cutW l).length ≤ cap := by
      rcases hO.2 with ⟨e, _⟩ | ⟨g', cap', cur, e, _, _, hc, _⟩
      · cases e
      · simp only [Value.slice.injEq] at e; obtain ⟨_, _, rfl⟩ := e; exact hc
    have hR1 := (hb1.block w.heap.size hl0).trans hR0
    have hB1 := bstep hb0 hb1
    have hg2 : w.heap.size < g := by omega
    obtain ⟨w0, ws, hc⟩ : ∃ w0 ws, cutW l = w0 :: ws := by
      cases h : cutW l with
      | nil => exact absurd h (cutW_ne l)
      | cons a b => exact ⟨a, b, rfl⟩
    have HEV := hide (show evL l = evArgs (evKind w0) ws from by unfold evL evOf; rw [if_pos (by omega), hc])
    rw [hc] at hA hcp HSM HLEN ⊢
    have hlen : (w0 :: ws).length = ws.length + 1 := by simp
    have hwl : ws.length ≤ 40 := by have := unhide HLEN; simp at this; omega
    rw [hlen] at hcp ⊢
    have hw0 : w0.length ≤ 1000 := by have := unhide HSM w0 (by simp); omega
    have hall : ∀ x ∈ ws, x.length ≤ 1000 := fun x hx => by have := unhide HSM x (by simp [hx]); omega
    have n1 : (1 : Int) ≤ (ws.length : Int) + 1 := by omega
    have n2 : (ws.length : Int) + 1 ≤ (cap : Int) := by omega
    clear HLEN HSM hO hc hb1 hb0 hR0 hl0
    have HALL := hide hall
    clear hall
    obtain ⟨o1, c1, hcase, hns⟩ : ∃ o1 c1, ((cap = 1 ∧ o1 = 0 ∧ c1 = 0) ∨ (cap ≠ 1 ∧ o1 = 1 ∧ c1 = cap - 1)) ∧ AtW w1 g o1 ws ∧ ws.length ≤ c1 := by
      by_cases h1 : cap = 1
      · refine ⟨0, 0, .inl ⟨h1, rfl, rfl⟩, ?_⟩
        have hw : ws = [] := List.length_eq_zero_iff.1 (by omega)
        subst hw
        exact ⟨fun j hj => absurd hj (Nat.not_lt_zero _), Nat.le_refl _⟩
      · refine ⟨1, cap - 1, .inr ⟨h1, rfl, rfl⟩, fun j hj => ?_, by omega⟩
        have := hA (j + 1) (by simp; omega)
        simp only [List.getElem_cons_succ] at this
        rw [← this, Nat.zero_add, Nat.add_comm 1 j]
    have HNS := hide hns
    have HA := hide hA
    have HNO := hide (numbersOf_any g o1 ws.length c1 w1)
    clear hns hA
    have hzz : ∀ (c : Nat), cap = 1 → ws.length = 0 := fun _ h => by omega
    rcases hcase with ⟨rfl, rfl, rfl⟩ | ⟨hcap1, rfl, rfl⟩
    · have hw0l : ws.length = 0 := by omega
      rw [hw0l] at HNO ⊢
      clear hzz
      go_wp2_with fail
      refine (unhide HNO).mono ?_
      rintro e w2 ⟨rfl, hp2, hq2, hb2⟩
      have hN : NumS w w2 w1.heap.size (w1.heap.size + 1) g _ _ _ ws false := ⟨hp2, hq2, (unhide HNS).1.below hb2, hw0l.symm, Nat.le_refl _, bstep hB1 hb2, hB1.size, by have := hB1.size; omega, by omega, by omega, by omega⟩
      have hwl1 : w.heap.size < w1.heap.size := (Array.getElem?_eq_some_iff.1 hR1).1
      have hR2 := (hb2.block w.heap.size hwl1).trans hR1
      have c0 := ((unhide HA).below hb2) 0 (by simp)
      rw [Nat.zero_add] at c0
      simp only [List.getElem_cons_zero] at c0
      have hRP : w.heap.size ≠ w1.heap.size := by omega
      have hRQ : w.heap.size ≠ w1.heap.size + 1 := by omega
      have hP2 : w1.heap.size < w2.heap.size := (Array.getElem?_eq_some_iff.1 hp2).1
      have hQ2 : w1.heap.size + 1 < w2.heap.size := (Array.getElem?_eq_some_iff.1 hq2).1
      clear HNO HNS HA hp2 hq2 hB1 hb2 hR1
      generalize w1.heap.size + 1 = Q at *
      generalize w1.heap.size = P at *
      have HK := hide (eventKind_any w0 hw0 w2)
      have HN := hide hN
      have HR := hide hR2
      have hgw2 : g < w2.heap.size := World.block_lt_of_cell? w2 ⟨_, _, none⟩ c0
      clear hN hR2
      go_wp2_with fail
      refine (unhide HK).mono ?_
      rintro e w3 ⟨rfl, hb3⟩
      clear HK c0
      go_upto_region 6 with fail
      have hN3 := (unhide HN).below hb3
      have hR3 := (hb3.block w.heap.size (Array.getElem?_eq_some_iff.1 (unhide HR)).1).trans (unhide HR)
      have hs3 := hb3.size
      have hb4 := cell_below w3 (.cells #[.int .i64 (evKind w0 : Nat), .int .i64 0, .int .i64 0, .int .i64 0] 23)
      have hE4 := World.alloc_heap_new w3 (.cells #[.int .i64 (evKind w0 : Nat), .int .i64 0, .int .i64 0, .int .i64 0] 23)
      have hN4 := hN3.below hb4
      have hR4 := (hb4.block w.heap.size (Array.getElem?_eq_some_iff.1 hR3).1).trans hR3
      have hRE : w.heap.size < w3.heap.size := (Array.getElem?_eq_some_iff.1 hR3).1
      have hEP : P ≠ w3.heap.size := by omega
      have hEQ : Q ≠ w3.heap.size := by omega
      have hEg : g ≠ w3.heap.size := by omega
      clear HN HR hN3 hR3 hb3 hb4 hs3
      generalize w3.alloc (.cells #[.int .i64 (evKind w0 : Nat), .int .i64 0, .int .i64 0, .int .i64 0] 23) = W4 at *
      generalize w3.heap.size = E at *
      obtain ⟨e0, e1, e2, e3, f0, f1, f2, f3⟩ := res4 hE4
      obtain ⟨r0, r1, r2, r3, q0, q1, q2, q3⟩ := res4 hR4
      have HN := hide hN4
      have HR := hide hR4
      have HEB := hide hE4
      clear hN4 hR4 hE4
      have hk8 := evKind_le w0
      generalize evKind w0 = k at *
      by_cases k0 : k = 0
      · subst k0
        have HV := hide (show evArgs 0 ws = none from rfl)
        have HB := hide (unhide HN).hb
        clear HN HEB
        go_wp2
        obtain ⟨r0, r1, r2, r3, q0, q1, q2, q3⟩ := res4 (set4_cells (unhide HR) (.int .i64 0) (.int .i64 0) (.int .i64 0) (.int .i64 0))
        exact bodyPost_ret (v := .tuple #[.agg #[.int .i64 0, .int .i64 0, .int .i64 0, .int .i64 0], .bool false]) (by simp [results, Tryd.results6, go_sem, r0, r1, r2, r3]) rfl ⟨by rw [unhide HEV, unhide HV]; rfl, below_set4 (unhide HB) _ (Nat.le_refl _) _ _ _ _⟩
      have k0b : ((k : Int) == 0) = false := beq_eq_false_iff_ne.2 (by omega)
      by_cases k1 : k = 1
      · subst k1
        have HX := evArgs_ask ws
        go_wp2_with fail
        refine (done_any _ _ _ _ _ _ _ _ _ _ (unhide HN)).mono ?_
        rintro e wd ⟨rfl, rfl⟩
        have HB := hide (unhide HN).hb
        obtain ⟨r0, r1, r2, r3, q0, q1, q2, q3⟩ := res4 (unhide HR)
        obtain ⟨e0, e1, e2, e3, f0, f1, f2, f3⟩ := res4 (unhide HEB)
        clear HN
        by_cases hd : (!false && decide (ws = [])) = true
        · have HV := hide (HX.trans (if_pos hd))
          rw [hd]
          clear hd HX
          go_wp2
          obtain ⟨r0, r1, r2, r3, q0, q1, q2, q3⟩ := res4 (set4_cells (unhide HR) (.int .i64 1) (.int .i64 0) (.int .i64 0) (.int .i64 0))
          exact bodyPost_ret (v := .tuple #[.agg #[.int .i64 1, .int .i64 0, .int .i64 0, .int .i64 0], .bool true]) (by simp [results, Tryd.results6, go_sem, r0, r1, r2, r3]) rfl ⟨by rw [unhide HEV, unhide HV]; rfl, below_set4 (unhide HB) _ (Nat.le_refl _) _ _ _ _⟩
        · have HV := hide (HX.trans (if_neg hd))
          have hd := eq_false_of_ne_true hd
          rw [hd]
          clear hd HX
          go_wp2
          obtain ⟨r0, r1, r2, r3, q0, q1, q2, q3⟩ := res4 (set4_cells (unhide HR) (.int .i64 0) (.int .i64 0) (.int .i64 0) (.int .i64 0))
          exact bodyPost_ret (v := .tuple #[.agg #[.int .i64 0, .int .i64 0, .int .i64 0, .int .i64 0], .bool false]) (by simp [results, Tryd.results6, go_sem, r0, r1, r2, r3]) rfl ⟨by rw [unhide HEV, unhide HV]; rfl, below_set4 (unhide HB) _ (Nat.le_refl _) _ _ _ _⟩
      have k1b : ((k : Int) == 1) = false := beq_eq_false_iff_ne.2 (by omega)
      by_cases k6 : k = 6
      · subst k6
        have HC := hide (next_any _ _ _ _ _ _ _ _ _ _ (unhide HN) (fun x hx => unhide HALL x (by exact hx)) (by omega) (unhide HTE).1 (unhide HTE).2)
        go_wp2_with fail
        refine (unhide HC).mono ?_
        rintro e W5 ⟨v1, n5, o5, cap5, rfl, hN5, hv1, hk1⟩
        have hRn := (hk1.2 w.heap.size (Array.getElem?_eq_some_iff.1 (unhide HR)).1 hRP hRQ).trans (unhide HR)
        have hEn := (hk1.2 E (Array.getElem?_eq_some_iff.1 (unhide HEB)).1 (Ne.symm hEP) (Ne.symm hEQ)).trans (unhide HEB)
        clear HC HN HR HEB hk1
        have HN := hide hN5
        have HR := hide hRn
        have HEB := hide hEn
        have HV1 := hide hv1
        clear hN5 hRn hEn hv1
        have HC := hide (next_any _ _ _ _ _ _ _ _ _ _ (unhide HN) (fun x hx => unhide HALL x (by exact List.mem_of_mem_tail hx)) (by simp; omega) (unhide HTE).1 (unhide HTE).2)
        go_wp2_with fail
        refine (unhide HC).mono ?_
        rintro e W6 ⟨v2, n6, o6, cap6, rfl, hN6, hv2, hk2⟩
        have hRn := (hk2.2 w.heap.size (Array.getElem?_eq_some_iff.1 (unhide HR)).1 hRP hRQ).trans (unhide HR)
        have hEn := (hk2.2 E (Array.getElem?_eq_some_iff.1 (unhide HEB)).1 (Ne.symm hEP) (Ne.symm hEQ)).trans (unhide HEB)
        clear HC HN HR HEB hk2
        have HN := hide hN6
        have HR := hide hRn
        have HEB := hide hEn
        have HV2 := hide hv2
        clear hN6 hRn hEn hv2
        have HC := hide (next_any _ _ _ _ _ _ _ _ _ _ (unhide HN) (fun x hx => unhide HALL x (by exact List.mem_of_mem_tail (List.mem_of_mem_tail hx))) (by simp; omega) (unhide HTE).1 (unhide HTE).2)
        go_wp2_with fail
        refine (unhide HC).mono ?_
        rintro e W7 ⟨v3, n7, o7, cap7, rfl, hN7, hv3, hk3⟩
        have hRn := (hk3.2 w.heap.size (Array.getElem?_eq_some_iff.1 (unhide HR)).1 hRP hRQ).trans (unhide HR)
        have hEn := (hk3.2 E (Array.getElem?_eq_some_iff.1 (unhide HEB)).1 (Ne.symm hEP) (Ne.symm hEQ)).trans (unhide HEB)
        clear HC HN HR HEB hk3
        have HN := hide hN7
        have HR := hide hRn
        have HEB := hide hEn
        have HV3 := hide hv3
        clear hN7 hRn hEn hv3
        have HX := evArgs_six ws v1 v2 v3 (unhide HV1) (unhide HV2) (unhide HV3)
        clear HV1 HV2 HV3
        obtain ⟨e0, e1, e2, e3, f0, f1, f2, f3⟩ := res4 (unhide HEB)
        have HN8 := hide ((((unhide HN).other 1 (.int .i64 v1) hEP hEQ hEg (by omega)).other 2 (.int .i64 v2) hEP hEQ hEg (by omega)).other 3 (.int .i64 v3) hEP hEQ hEg (by omega))
        have HE8 := hide (set_blk (i := 3) (set_blk (i := 2) (set_blk (i := 1) (unhide HEB) (.int .i64 v1)) (.int .i64 v2)) (.int .i64 v3))
        have HR8 := hide (((set_other ((W7.setCell ⟨E, 1, none⟩ (.int .i64 v1)).setCell ⟨E, 2, none⟩ (.int .i64 v2)) (i := 3) (.int .i64 v3) (Nat.ne_of_lt hRE)).trans ((set_other (W7.setCell ⟨E, 1, none⟩ (.int .i64 v1)) (i := 2) (.int .i64 v2) (Nat.ne_of_lt hRE)).trans (set_other W7 (i := 1) (.int .i64 v1) (Nat.ne_of_lt hRE)))).trans (unhide HR))
        clear HN HEB HR
        have HN := HN8
        have HR := HR8
        have HEB : Hid ((((W7.setCell ⟨E, 1, none⟩ (.int .i64 v1)).setCell ⟨E, 2, none⟩ (.int .i64 v2)).setCell ⟨E, 3, none⟩ (.int .i64 v3)).heap[E]? = some (.cells #[.int .i64 6, .int .i64 v1, .int .i64 v2, .int .i64 v3] 23)) := unhide HE8
        clear HN8 HE8 HR8
        go_wp2_with fail
        generalize ((W7.setCell ⟨E, 1, none⟩ (.int .i64 v1)).setCell ⟨E, 2, none⟩ (.int .i64 v2)).setCell ⟨E, 3, none⟩ (.int .i64 v3) = W8 at *
        clear e0 e1 e2 e3 f0 f1 f2 f3
        refine (done_any _ _ _ _ _ _ _ _ _ _ (unhide HN)).mono ?_
        rintro e wd ⟨rfl, rfl⟩
        have HB := hide (unhide HN).hb
        obtain ⟨r0, r1, r2, r3, q0, q1, q2, q3⟩ := res4 (unhide HR)
        obtain ⟨e0, e1, e2, e3, f0, f1, f2, f3⟩ := res4 (unhide HEB)
        clear HN
        by_cases hd : (!(((false || (nextW ws).isNone) || (nextW ws.tail).isNone) || (nextW ws.tail.tail).isNone) && decide (ws.tail.tail.tail = [])) = true
        · have HV := hide (HX.trans (if_pos hd))
          rw [hd]
          clear hd HX
          go_wp2
          obtain ⟨r0, r1, r2, r3, q0, q1, q2, q3⟩ := res4 (set4_cells (unhide HR) (.int .i64 6) (.int .i64 v1) (.int .i64 v2) (.int .i64 v3))
          exact bodyPost_ret (v := .tuple #[.agg #[.int .i64 6, .int .i64 v1, .int .i64 v2, .int .i64 v3], .bool true]) (by simp [results, Tryd.results6, go_sem, r0, r1, r2, r3]) rfl ⟨by rw [unhide HEV, unhide HV]; rfl, below_set4 (unhide HB) _ (Nat.le_refl _) _ _ _ _⟩
        · have HV := hide (HX.trans (if_neg hd))
          have hd := eq_false_of_ne_true hd
          rw [hd]
          clear hd HX
          go_wp2
          obtain ⟨r0, r1, r2, r3, q0, q1, q2, q3⟩ := res4 (set4_cells (unhide HR) (.int .i64 0) (.int .i64 0) (.int .i64 0) (.int .i64 0))
          exact bodyPost_ret (v := .tuple #[.agg #[.int .i64 0, .int .i64 0, .int .i64 0, .int .i64 0], .bool false]) (by simp [results, Tryd.results6, go_sem, r0, r1, r2, r3]) rfl ⟨by rw [unhide HEV, unhide HV]; rfl, below_set4 (unhide HB) _ (Nat.le_refl _) _ _ _ _⟩
      have k6b : ((k : Int) == 6) = false := beq_eq_false_iff_ne.2 (by omega)
      have HC := hide (next_any _ _ _ _ _ _ _ _ _ _ (unhide HN) (fun x hx => unhide HALL x hx) (by omega) (unhide HTE).1 (unhide HTE).2)
      go_wp2_with fail
      refine (unhide HC).mono ?_
      rintro e W5 ⟨v1, n5, o5, cap5, rfl, hN5, hv1, hk1⟩
      have hRn := (hk1.2 w.heap.size (Array.getElem?_eq_some_iff.1 (unhide HR)).1 hRP hRQ).trans (unhide HR)
      have hEn := (hk1.2 E (Array.getElem?_eq_some_iff.1 (unhide HEB)).1 (Ne.symm hEP) (Ne.symm hEQ)).trans (unhide HEB)
      have HX := evArgs_one k0 k1 k6 ws v1 hv1
      obtain ⟨e0, e1, e2, e3, f0, f1, f2, f3⟩ := res4 hEn
      clear HC HN HR HEB hk1 hv1
      have HN := hide (hN5.other 1 (.int .i64 v1) hEP hEQ hEg (by omega))
      have HR := hide ((set_other W5 (i := 1) (.int .i64 v1) (Nat.ne_of_lt hRE)).trans hRn)
      have HEB : Hid ((W5.setCell ⟨E, 1, none⟩ (.int .i64 v1)).heap[E]? = some (.cells #[.int .i64 k, .int .i64 v1, .int .i64 0, .int .i64 0] 23)) := set_blk hEn _
      clear hN5 hRn hEn
      go_wp2_with fail
      generalize W5.setCell ⟨E, 1, none⟩ (.int .i64 v1) = W8 at *
      clear e0 e1 e2 e3 f0 f1 f2 f3
      refine (done_any _ _ _ _ _ _ _ _ _ _ (unhide HN)).mono ?_
      rintro e wd ⟨rfl, rfl⟩
      have HB := hide (unhide HN).hb
      obtain ⟨r0, r1, r2, r3, q0, q1, q2, q3⟩ := res4 (unhide HR)
      obtain ⟨e0, e1, e2, e3, f0, f1, f2, f3⟩ := res4 (unhide HEB)
      clear HN
      by_cases hd : (!(false || (nextW ws).isNone) && decide (ws.tail = [])) = true
      · have HV := hide (HX.trans (if_pos hd))
        rw [hd]
        clear hd HX
        go_wp2
        obtain ⟨r0, r1, r2, r3, q0, q1, q2, q3⟩ := res4 (set4_cells (unhide HR) (.int .i64 k) (.int .i64 v1) (.int .i64 0) (.int .i64 0))
        exact bodyPost_ret (v := .tuple #[.agg #[.int .i64 k, .int .i64 v1, .int .i64 0, .int .i64 0], .bool true]) (by simp [results, Tryd.results6, go_sem, r0, r1, r2, r3]) rfl ⟨by rw [unhide HEV, unhide HV]; rfl, below_set4 (unhide HB) _ (Nat.le_refl _) _ _ _ _⟩
      · have HV := hide (HX.trans (if_neg hd))
        have hd := eq_false_of_ne_true hd
        rw [hd]
        clear hd HX
        go_wp2
        obtain ⟨r0, r1, r2, r3, q0, q1, q2, q3⟩ := res4 (set4_cells (unhide HR) (.int .i64 0) (.int .i64 0) (.int .i64 0) (.int .i64 0))
        exact bodyPost_ret (v := .tuple #[.agg #[.int .i64 0, .int .i64 0, .int .i64 0, .int .i64 0], .bool false]) (by simp [results, Tryd.results6, go_sem, r0, r1, r2, r3]) rfl ⟨by rw [unhide HEV, unhide HV]; rfl, below_set4 (unhide HB) _ (Nat.le_refl _) _ _ _ _⟩
    · have hc1b : ¬ (cap - 1 = 0) := by omega
      clear hzz
      go_wp2_with fail
      refine (unhide HNO).mono ?_
      rintro e w2 ⟨rfl, hp2, hq2, hb2⟩
      have hN : NumS w w2 w1.heap.size (w1.heap.size + 1) g _ _ _ ws false := ⟨hp2, hq2, (unhide HNS).1.below hb2, rfl, (unhide HNS).2, bstep hB1 hb2, hB1.size, by have := hB1.size; omega, by omega, by omega, by omega⟩
      have hwl1 : w.heap.size < w1.heap.size := (Array.getElem?_eq_some_iff.1 hR1).1
      have hR2 := (hb2.block w.heap.size hwl1).trans hR1
      have c0 := ((unhide HA).below hb2) 0 (by simp)
      rw [Nat.zero_add] at c0
      simp only [List.getElem_cons_zero] at c0
      have hRP : w.heap.size ≠ w1.heap.size := by omega
      have hRQ : w.heap.size ≠ w1.heap.size + 1 := by omega
      have hP2 : w1.heap.size < w2.heap.size := (Array.getElem?_eq_some_iff.1 hp2).1
      have hQ2 : w1.heap.size + 1 < w2.heap.size := (Array.getElem?_eq_some_iff.1 hq2).1
      clear HNO HNS HA hp2 hq2 hB1 hb2 hR1
      generalize w1.heap.size + 1 = Q at *
      generalize w1.heap.size = P at *
      have HK := hide (eventKind_any w0 hw0 w2)
      have HN := hide hN
      have HR := hide hR2
      have hgw2 : g < w2.heap.size := World.block_lt_of_cell? w2 ⟨_, _, none⟩ c0
      clear hN hR2
      go_wp2_with fail
      refine (unhide HK).mono ?_
      rintro e w3 ⟨rfl, hb3⟩
      clear HK c0
      go_upto_region 6 with fail
      have hN3 := (unhide HN).below hb3
      have hR3 := (hb3.block w.heap.size (Array.getElem?_eq_some_iff.1 (unhide HR)).1).trans (unhide HR)
      have hs3 := hb3.size
      have hb4 := cell_below w3 (.cells #[.int .i64 (evKind w0 : Nat), .int .i64 0, .int .i64 0, .int .i64 0] 23)
      have hE4 := World.alloc_heap_new w3 (.cells #[.int .i64 (evKind w0 : Nat), .int .i64 0, .int .i64 0, .int .i64 0] 23)
      have hN4 := hN3.below hb4
      have hR4 := (hb4.block w.heap.size (Array.getElem?_eq_some_iff.1 hR3).1).trans hR3
      have hRE : w.heap.size < w3.heap.size := (Array.getElem?_eq_some_iff.1 hR3).1
      have hEP : P ≠ w3.heap.size := by omega
      have hEQ : Q ≠ w3.heap.size := by omega
      have hEg : g ≠ w3.heap.size := by omega
      clear HN HR hN3 hR3 hb3 hb4 hs3
      generalize w3.alloc (.cells #[.int .i64 (evKind w0 : Nat), .int .i64 0, .int .i64 0, .int .i64 0] 23) = W4 at *
      generalize w3.heap.size = E at *
      obtain ⟨e0, e1, e2, e3, f0, f1, f2, f3⟩ := res4 hE4
      obtain ⟨r0, r1, r2, r3, q0, q1, q2, q3⟩ := res4 hR4
      have HN := hide hN4
      have HR := hide hR4
      have HEB := hide hE4
      clear hN4 hR4 hE4
      have hk8 := evKind_le w0
      generalize evKind w0 = k at *
      by_cases k0 : k = 0
      · subst k0
        have HV := hide (show evArgs 0 ws = none from rfl)
        have HB := hide (unhide HN).hb
        clear HN HEB
        go_wp2
        obtain ⟨r0, r1, r2, r3, q0, q1, q2, q3⟩ := res4 (set4_cells (unhide HR) (.int .i64 0) (.int .i64 0) (.int .i64 0) (.int .i64 0))
        exact bodyPost_ret (v := .tuple #[.agg #[.int .i64 0, .int .i64 0, .int .i64 0, .int .i64 0], .bool false]) (by simp [results, Tryd.results6, go_sem, r0, r1, r2, r3]) rfl ⟨by rw [unhide HEV, unhide HV]; rfl, below_set4 (unhide HB) _ (Nat.le_refl _) _ _ _ _⟩
      have k0b : ((k : Int) == 0) = false := beq_eq_false_iff_ne.2 (by omega)
      by_cases k1 : k = 1
      · subst k1
        have HX := evArgs_ask ws
        go_wp2_with fail
        refine (done_any _ _ _ _ _ _ _ _ _ _ (unhide HN)).mono ?_
        rintro e wd ⟨rfl, rfl⟩
        have HB := hide (unhide HN).hb
        obtain ⟨r0, r1, r2, r3, q0, q1, q2, q3⟩ := res4 (unhide HR)
        obtain ⟨e0, e1, e2, e3, f0, f1, f2, f3⟩ := res4 (unhide HEB)
        clear HN
        by_cases hd : (!false && decide (ws = [])) = true
        · have HV := hide (HX.trans (if_pos hd))
          rw [hd]
          clear hd HX
          go_wp2
          obtain ⟨r0, r1, r2, r3, q0, q1, q2, q3⟩ := res4 (set4_cells (unhide HR) (.int .i64 1) (.int .i64 0) (.int .i64 0) (.int .i64 0))
          exact bodyPost_ret (v := .tuple #[.agg #[.int .i64 1, .int .i64 0, .int .i64 0, .int .i64 0], .bool true]) (by simp [results, Tryd.results6, go_sem, r0, r1, r2, r3]) rfl ⟨by rw [unhide HEV, unhide HV]; rfl, below_set4 (unhide HB) _ (Nat.le_refl _) _ _ _ _⟩
        · have HV := hide (HX.trans (if_neg hd))
          have hd := eq_false_of_ne_true hd
          rw [hd]
          clear hd HX
          go_wp2
          obtain ⟨r0, r1, r2, r3, q0, q1, q2, q3⟩ := res4 (set4_cells (unhide HR) (.int .i64 0) (.int .i64 0) (.int .i64 0) (.int .i64 0))
          exact bodyPost_ret (v := .tuple #[.agg #[.int .i64 0, .int .i64 0, .int .i64 0, .int .i64 0], .bool false]) (by simp [results, Tryd.results6, go_sem, r0, r1, r2, r3]) rfl ⟨by rw [unhide HEV, unhide HV]; rfl, below_set4 (unhide HB) _ (Nat.le_refl _) _ _ _ _⟩
      have k1b : ((k : Int) == 1) = false := beq_eq_false_iff_ne.2 (by omega)
      by_cases k6 : k = 6
      · subst k6
        have HC := hide (next_any _ _ _ _ _ _ _ _ _ _ (unhide HN) (fun x hx => unhide HALL x (by exact hx)) (by omega) (unhide HTE).1 (unhide HTE).2)
        go_wp2_with fail
        refine (unhide HC).mono ?_
        rintro e W5 ⟨v1, n5, o5, cap5, rfl, hN5, hv1, hk1⟩
        have hRn := (hk1.2 w.heap.size (Array.getElem?_eq_some_iff.1 (unhide HR)).1 hRP hRQ).trans (unhide HR)
        have hEn := (hk1.2 E (Array.getElem?_eq_some_iff.1 (unhide HEB)).1 (Ne.symm hEP) (Ne.symm hEQ)).trans (unhide HEB)
        clear HC HN HR HEB hk1
        have HN := hide hN5
        have HR := hide hRn
        have HEB := hide hEn
        have HV1 := hide hv1
        clear hN5 hRn hEn hv1
        have HC := hide (next_any _ _ _ _ _ _ _ _ _ _ (unhide HN) (fun x hx => unhide HALL x (by exact List.mem_of_mem_tail hx)) (by simp; omega) (unhide HTE).1 (unhide HTE).2)
        go_wp2_with fail
        refine (unhide HC).mono ?_
        rintro e W6 ⟨v2, n6, o6, cap6, rfl, hN6, hv2, hk2⟩
        have hRn := (hk2.2 w.heap.size (Array.getElem?_eq_some_iff.1 (unhide HR)).1 hRP hRQ).trans (unhide HR)
        have hEn := (hk2.2 E (Array.getElem?_eq_some_iff.1 (unhide HEB)).1 (Ne.symm hEP) (Ne.symm hEQ)).trans (unhide HEB)
        clear HC HN HR HEB hk2
        have HN := hide hN6
        have HR := hide hRn
        have HEB := hide hEn
        have HV2 := hide hv2
        clear hN6 hRn hEn hv2
        have HC := hide (next_any _ _ _ _ _ _ _ _ _ _ (unhide HN) (fun x hx => unhide HALL x (by exact List.mem_of_mem_tail (List.mem_of_mem_tail hx))) (by simp; omega) (unhide HTE).1 (unhide HTE).2)
        go_wp2_with fail
        refine (unhide HC).mono ?_
        rintro e W7 ⟨v3, n7, o7, cap7, rfl, hN7, hv3, hk3⟩
        have hRn := (hk3.2 w.heap.size (Array.getElem?_eq_some_iff.1 (unhide HR)).1 hRP hRQ).trans (unhide HR)
        have hEn := (hk3.2 E (Array.getElem?_eq_some_iff.1 (unhide HEB)).1 (Ne.symm hEP) (Ne.symm hEQ)).trans (unhide HEB)
        clear HC HN HR HEB hk3
        have HN := hide hN7
        have HR := hide hRn
        have HEB := hide hEn
        have HV3 := hide hv3
        clear hN7 hRn hEn hv3
        have HX := evArgs_six ws v1 v2 v3 (unhide HV1) (unhide HV2) (unhide HV3)
        clear HV1 HV2 HV3
        obtain ⟨e0, e1, e2, e3, f0, f1, f2, f3⟩ := res4 (unhide HEB)
        have HN8 := hide ((((unhide HN).other 1 (.int .i64 v1) hEP hEQ hEg (by omega)).other 2 (.int .i64 v2) hEP hEQ hEg (by omega)).other 3 (.int .i64 v3) hEP hEQ hEg (by omega))
        have HE8 := hide (set_blk (i := 3) (set_blk (i := 2) (set_blk (i := 1) (unhide HEB) (.int .i64 v1)) (.int .i64 v2)) (.int .i64 v3))
        have HR8 := hide (((set_other ((W7.setCell ⟨E, 1, none⟩ (.int .i64 v1)).setCell ⟨E, 2, none⟩ (.int .i64 v2)) (i := 3) (.int .i64 v3) (Nat.ne_of_lt hRE)).trans ((set_other (W7.setCell ⟨E, 1, none⟩ (.int .i64 v1)) (i := 2) (.int .i64 v2) (Nat.ne_of_lt hRE)).trans (set_other W7 (i := 1) (.int .i64 v1) (Nat.ne_of_lt hRE)))).trans (unhide HR))
        clear HN HEB HR
        have HN := HN8
        have HR := HR8
        have HEB : Hid ((((W7.setCell ⟨E, 1, none⟩ (.int .i64 v1)).setCell ⟨E, 2, none⟩ (.int .i64 v2)).setCell ⟨E, 3, none⟩ (.int .i64 v3)).heap[E]? = some (.cells #[.int .i64 6, .int .i64 v1, .int .i64 v2, .int .i64 v3] 23)) := unhide HE8
        clear HN8 HE8 HR8
        go_wp2_with fail
        generalize ((W7.setCell ⟨E, 1, none⟩ (.int .i64 v1)).setCell ⟨E, 2, none⟩ (.int .i64 v2)).setCell ⟨E, 3, none⟩ (.int .i64 v3) = W8 at *
        clear e0 e1 e2 e3 f0 f1 f2 f3
        refine (done_any _ _ _ _ _ _ _ _ _ _ (unhide HN)).mono ?_
        rintro e wd ⟨rfl, rfl⟩
        have HB := hide (unhide HN).hb
        obtain ⟨r0, r1, r2, r3, q0, q1, q2, q3⟩ := res4 (unhide HR)
        obtain ⟨e0, e1, e2, e3, f0, f1, f2, f3⟩ := res4 (unhide HEB)
        clear HN
        by_cases hd : (!(((false || (nextW ws).isNone) || (nextW ws.tail).isNone) || (nextW ws.tail.tail).isNone) && decide (ws.tail.tail.tail = [])) = true
        · have HV := hide (HX.trans (if_pos hd))
          rw [hd]
          clear hd HX
          go_wp2
          obtain ⟨r0, r1, r2, r3, q0, q1, q2, q3⟩ := res4 (set4_cells (unhide HR) (.int .i64 6) (.int .i64 v1) (.int .i64 v2) (.int .i64 v3))
          exact bodyPost_ret (v := .tuple #[.agg #[.int .i64 6, .int .i64 v1, .int .i64 v2, .int .i64 v3], .bool true]) (by simp [results, Tryd.results6, go_sem, r0, r1, r2, r3]) rfl ⟨by rw [unhide HEV, unhide HV]; rfl, below_set4 (unhide HB) _ (Nat.le_refl _) _ _ _ _⟩
        · have HV := hide (HX.trans (if_neg hd))
          have hd := eq_false_of_ne_true hd
          rw [hd]
          clear hd HX
          go_wp2
          obtain ⟨r0, r1, r2, r3, q0, q1, q2, q3⟩ := res4 (set4_cells (unhide HR) (.int .i64 0) (.int .i64 0) (.int .i64 0) (.int .i64 0))
          exact bodyPost_ret (v := .tuple #[.agg #[.int .i64 0, .int .i64 0, .int .i64 0, .int .i64 0], .bool false]) (by simp [results, Tryd.results6, go_sem, r0, r1, r2, r3]) rfl ⟨by rw [unhide HEV, unhide HV]; rfl, below_set4 (unhide HB) _ (Nat.le_refl _) _ _ _ _⟩
      have k6b : ((k : Int) == 6) = false := beq_eq_false_iff_ne.2 (by omega)
      have HC := hide (next_any _ _ _ _ _ _ _ _ _ _ (unhide HN) (fun x hx => unhide HALL x hx) (by omega) (unhide HTE).1 (unhide HTE).2)
      go_wp2_with fail
      refine (unhide HC).mono ?_
      rintro e W5 ⟨v1, n5, o5, cap5, rfl, hN5, hv1, hk1⟩
      have hRn := (hk1.2 w.heap.size (Array.getElem?_eq_some_iff.1 (unhide HR)).1 hRP hRQ).trans (unhide HR)
      have hEn := (hk1.2 E (Array.getElem?_eq_some_iff.1 (unhide HEB)).1 (Ne.symm hEP) (Ne.symm hEQ)).trans (unhide HEB)
      have HX := evArgs_one k0 k1 k6 ws v1 hv1
      obtain ⟨e0, e1, e2, e3, f0, f1, f2, f3⟩ := res4 hEn
      clear HC HN HR HEB hk1 hv1
      have HN := hide (hN5.other 1 (.int .i64 v1) hEP hEQ hEg (by omega))
      have HR := hide ((set_other W5 (i := 1) (.int .i64 v1) (Nat.ne_of_lt hRE)).trans hRn)
      have HEB : Hid ((W5.setCell ⟨E, 1, none⟩ (.int .i64 v1)).heap[E]? = some (.cells #[.int .i64 k, .int .i64 v1, .int .i64 0, .int .i64 0] 23)) := set_blk hEn _
      clear hN5 hRn hEn
      go_wp2_with fail
      generalize W5.setCell ⟨E, 1, none⟩ (.int .i64 v1) = W8 at *
      clear e0 e1 e2 e3 f0 f1 f2 f3
      refine (done_any _ _ _ _ _ _ _ _ _ _ (unhide HN)).mono ?_
      rintro e wd ⟨rfl, rfl⟩
      have HB := hide (unhide HN).hb
      obtain ⟨r0, r1, r2, r3, q0, q1, q2, q3⟩ := res4 (unhide HR)
      obtain ⟨e0, e1, e2, e3, f0, f1, f2, f3⟩ := res4 (unhide HEB)
      clear HN
      by_cases hd : (!(false || (nextW ws).isNone) && decide (ws.tail = [])) = true
      · have HV := hide (HX.trans (if_pos hd))
        rw [hd]
        clear hd HX
        go_wp2
        obtain ⟨r0, r1, r2, r3, q0, q1, q2, q3⟩ := res4 (set4_cells (unhide HR) (.int .i64 k) (.int .i64 v1) (.int .i64 0) (.int .i64 0))
        exact bodyPost_ret (v := .tuple #[.agg #[.int .i64 k, .int .i64 v1, .int .i64 0, .int .i64 0], .bool true]) (by simp [results, Tryd.results6, go_sem, r0, r1, r2, r3]) rfl ⟨by rw [unhide HEV, unhide HV]; rfl, below_set4 (unhide HB) _ (Nat.le_refl _) _ _ _ _⟩
      · have HV := hide (HX.trans (if_neg hd))
        have hd := eq_false_of_ne_true hd
        rw [hd]
        clear hd HX
        go_wp2
        obtain ⟨r0, r1, r2, r3, q0, q1, q2, q3⟩ := res4 (set4_cells (unhide HR) (.int .i64 0) (.int .i64 0) (.int .i64 0) (.int .i64 0))
        exact bodyPost_ret (v := .tuple #[.agg #[.int .i64 0, .int .i64 0, .int .i64 0, .int .i64 0], .bool false]) (by simp [results, Tryd.results6, go_sem, r0, r1, r2, r3]) rfl ⟨by rw [unhide HEV, unhide HV]; rfl, below_set4 (unhide HB) _ (Nat.le_refl _) _ _ _ _⟩
end Go.Proofs.YthelpghiafbejaaDoor
