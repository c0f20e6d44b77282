import Derived.Test.YtkedckmpjedjoaaQW18GI6GI6call
/- goalOf of a goal of the kind same. -/
namespace Go.Proofs.Ytkedckmpjedjoaa
open Go.RowKit Go.Shelf
set_option linter.unusedVariables false
set_option linter.unusedSimpArgs false

/-- What may be a goal of this kind. -/
def whole_same (a b c : List C) : Bool := trm a && trm b && (c.length == 0)
/-- The goal, or none. -/
def Goal_same (lo hi : Nat) (a b c : List C) (W : World) (v : Value) : Prop := (whole_same a b c = true ∧ ∃ p, ∃ q, v = .iface 241 (.agg #[ptrV (some p), ptrV (some q)]) ∧ TreL lo hi W p a ∧ TreL lo hi W q b) ∨ (whole_same a b c = false ∧ v = .nilIface)

set_option maxRecDepth 100000 in
set_option maxHeartbeats 4000000 in
theorem goalOf_same (xa ya za : Option Addr) (xc yc zc : Nat) (a b c : List C) (w : World) (h : Trip w xa ya za a b c) (h1 : a.length ≤ xc ∧ xc ≤ maxLen) (h2 : b.length ≤ yc ∧ yc ≤ maxLen) (h3 : c.length ≤ zc ∧ zc ≤ maxLen) :
    Calls Try.prog 146 #[.agg #[.int .i64 2, .slice xa a.length xc, .slice ya b.length yc, .slice za c.length zc]] w fun e w' => ∃ v, e = .returned v ∧ Goal_same w.heap.size w'.heap.size a b c w' v ∧ Below w.heap.size w w' := by
  have HA := hide (fun (W : World) (hW : Below w.heap.size w W) => treeOf_opt w.heap.size xa xc a W hW.size h1.1 h1.2 ((h.below hW).ra) h.fa)
  have HB := hide (fun (W : World) (hW : Below w.heap.size w W) => treeOf_opt w.heap.size ya yc b W hW.size h2.1 h2.2 ((h.below hW).rb) h.fb)
  have HC := hide (fun (W : World) (hW : Below w.heap.size w W) => treeOf_opt w.heap.size za zc c W hW.size h3.1 h3.2 ((h.below hW).rc) h.fc)
  have hla := h.la
  have hlb := h.lb
  have hlc := h.lc
  clear h h1 h2 h3
  obtain ⟨hb0, d1, d2, d3⟩ := four_new w (.int .i64 2) (.slice xa a.length xc) (.slice ya b.length yc) (.slice za c.length zc) 93
  have d0 : (w.alloc (.cells #[.int .i64 2, .slice xa a.length xc, .slice ya b.length yc, .slice za c.length zc] 93)).cell? ⟨w.heap.size, 0, none⟩ = some (.int .i64 2) := by
    have hb := World.alloc_heap_new w (.cells #[.int .i64 2, .slice xa a.length xc, .slice ya b.length yc, .slice za c.length zc] 93)
    simp only [World.cell?]; rw [hb]; rfl
  go_enter Try.func146, Try.ntmps146
  go_wp2
  generalize w.alloc (.cells #[.int .i64 2, .slice xa a.length xc, .slice ya b.length yc, .slice za c.length zc] 93) = w0 at hb0 d0 d1 d2 d3 ⊢
  have hl0 : w.heap.size < w0.heap.size := World.block_lt_of_cell? w0 ⟨_, _, none⟩ d1
  go_region_held3 (fun w' => w'.cell? ⟨w.heap.size, 0, none⟩ = some (.int .i64 2) ∧ w'.cell? ⟨w.heap.size, 1, none⟩ = some (.slice xa a.length xc) ∧ w'.cell? ⟨w.heap.size, 2, none⟩ = some (.slice ya b.length yc) ∧ w'.cell? ⟨w.heap.size, 3, none⟩ = some (.slice za c.length zc)) (first | (refine ⟨?_, ?_, ?_, ?_⟩ <;> assumption) | go_keep) (first
    | (go_at_call 116; have hx := hb02; refine (unhide HC w02 (by exact hB02)).mono ?_; rintro e w03 ⟨o3, rfl, hk3, hb03⟩; have g0 := (hb03.cell (p := ⟨w.heap.size, 0, none⟩) hl2).trans f0; have g1 := (hb03.cell (p := ⟨w.heap.size, 1, none⟩) hl2).trans f1; have g2 := (hb03.cell (p := ⟨w.heap.size, 2, none⟩) hl2).trans f2; have g3 := (hb03.cell (p := ⟨w.heap.size, 3, none⟩) hl2).trans f3; have hB03 := bstep hB02 hb03)
    | (go_at_call 116; have hx := hb01; refine (unhide HB w01 (by exact hB01)).mono ?_; rintro e w02 ⟨o2, rfl, hk2, hb02⟩; have f0 := (hb02.cell (p := ⟨w.heap.size, 0, none⟩) hl1).trans e0; have f1 := (hb02.cell (p := ⟨w.heap.size, 1, none⟩) hl1).trans e1; have f2 := (hb02.cell (p := ⟨w.heap.size, 2, none⟩) hl1).trans e2; have f3 := (hb02.cell (p := ⟨w.heap.size, 3, none⟩) hl1).trans e3; have hl2 : w.heap.size < w02.heap.size := World.block_lt_of_cell? w02 ⟨_, _, none⟩ f1; have hB02 := bstep hB01 hb02)
    | (go_at_call 116; refine (unhide HA w0.drew hb0.drew).mono ?_; rintro e w01 ⟨o1, rfl, hk1, hb01⟩; have e0 := (hb01.cell (p := ⟨w.heap.size, 0, none⟩) hl0).trans d0; have e1 := (hb01.cell (p := ⟨w.heap.size, 1, none⟩) hl0).trans d1; have e2 := (hb01.cell (p := ⟨w.heap.size, 2, none⟩) hl0).trans d2; have e3 := (hb01.cell (p := ⟨w.heap.size, 3, none⟩) hl0).trans d3; have hl1 : w.heap.size < w01.heap.size := World.block_lt_of_cell? w01 ⟨_, _, none⟩ e1; have hB01 := bstep hb0.drew hb01))
  have hl3 : w.heap.size < w03.heap.size := World.block_lt_of_cell? w03 ⟨_, _, none⟩ g1
  have HK1 := hide ((hk1.below hb02).below hb03)
  have HK2 := hide (hk2.below hb03)
  have HK3 := hide hk3
  clear hk1 hk2 hk3 hb01 hb02 hb03 hB01 hB02 hb0 d0 d1 d2 d3 e0 e1 e2 e3 f0 f1 f2 f3 HA HB HC hl0 hl1 hl2 hx
  have HTM := hide (fun (W : World) => terms_same o1 o2 W)
  obtain ⟨nb, n0, n1, n2⟩ := three_new w03 (.slice xa a.length xc) (.slice ya b.length yc) (.slice za c.length zc) 41
  have ga0 := (nb.cell (p := ⟨w.heap.size, 0, none⟩) hl3).trans g0
  have ga1 := (nb.cell (p := ⟨w.heap.size, 1, none⟩) hl3).trans g1
  have ga2 := (nb.cell (p := ⟨w.heap.size, 2, none⟩) hl3).trans g2
  have ga3 := (nb.cell (p := ⟨w.heap.size, 3, none⟩) hl3).trans g3
  have hl3a : w.heap.size < (w03.alloc (.cells #[.slice xa a.length xc, .slice ya b.length yc, .slice za c.length zc] 41)).heap.size := Nat.lt_of_lt_of_le hl3 nb.size
  have hn1 : w03.heap.size < (w03.alloc (.cells #[.slice xa a.length xc, .slice ya b.length yc, .slice za c.length zc] 41)).heap.size := World.block_lt_of_cell? _ ⟨_, _, none⟩ n0
  unfold ptrV at *
  go_wp2
  go_region_held3 (fun w' => w'.cell? ⟨w.heap.size, 0, none⟩ = some (.int .i64 2) ∧ w'.cell? ⟨w.heap.size, 1, none⟩ = some (.slice xa a.length xc) ∧ w'.cell? ⟨w.heap.size, 2, none⟩ = some (.slice ya b.length yc) ∧ w'.cell? ⟨w.heap.size, 3, none⟩ = some (.slice za c.length zc)) (first | (refine ⟨?_, ?_, ?_, ?_⟩ <;> assumption) | go_keep) (first
    | (go_at_call 216; refine (unhide HTM _).mono ?_; rintro e w04 ⟨ao, cap, rfl, _, hb04⟩; simp only [List.length_nil, List.length_cons]; have i0 := (hb04.cell (p := ⟨w.heap.size, 0, none⟩) (by first | exact hl3 | exact hl3a)).trans (by first | exact g0 | exact ga0); have i1 := (hb04.cell (p := ⟨w.heap.size, 1, none⟩) (by first | exact hl3 | exact hl3a)).trans (by first | exact g1 | exact ga1); have i2 := (hb04.cell (p := ⟨w.heap.size, 2, none⟩) (by first | exact hl3 | exact hl3a)).trans (by first | exact g2 | exact ga2); have i3 := (hb04.cell (p := ⟨w.heap.size, 3, none⟩) (by first | exact hl3 | exact hl3a)).trans (by first | exact g3 | exact ga3)))
  · have q0 : w04.cell? ⟨w03.heap.size, 0, none⟩ = some (.slice xa a.length xc) := (hb04.cell (p := ⟨w03.heap.size, 0, none⟩) hn1).trans n0
    have q1 : w04.cell? ⟨w03.heap.size, 1, none⟩ = some (.slice ya b.length yc) := (hb04.cell (p := ⟨w03.heap.size, 1, none⟩) hn1).trans n1
    have q2 : w04.cell? ⟨w03.heap.size, 2, none⟩ = some (.slice za c.length zc) := (hb04.cell (p := ⟨w03.heap.size, 2, none⟩) hn1).trans n2
    have hbW : Below w03.heap.size w03 w04 := bstep nb.drew hb04
    clear hb04
    have K1 := (unhide HK1).below hbW
    have K2 := (unhide HK2).below hbW
    have hBW := bstep hB03 hbW
    clear hbW g0 g1 g2 g3 ga0 ga1 ga2 ga3 i0 i1 i2 i3 n0 n1 n2 nb hn1 hl3a hl3 HK1 HK2 HK3 HTM hB03
    generalize w03.heap.size = L at q0 q1 q2 ⊢
    generalize w04 = W at *
    have HGW := hide (goalWhole_same o1 o2 W)
    obtain ⟨B, hB⟩ : ∃ B, B = (!decide (none ∈ ([o1, o2] : List (Option Nat)))) := ⟨_, rfl⟩
    rw [← hB] at HGW
    have HB := hide hB
    clear hB
    go_wp2
    go_loopw [65] (fun i wr => ∃ (k : Nat), k ≤ 1 ∧ i = .int .i64 k ∧ (0 < k → c.length = 0) ∧ wr = W) (fun i _ => 1 - (intOf i).toNat)
    case atStart => exact ⟨0, by omega, rfl, fun h => absurd h (by omega), rfl⟩
    case round =>
      obtain ⟨k, hk, rfl, z0, hwr⟩ := hrel
      subst hwr
      have HZ0 := hide z0
      clear z0
      by_cases k0 : k = 0
      · subst k0
        by_cases ha : c.length = 0
        · have ha' := hide ha
          clear ha
          have hz : c.length = 0 := unhide ha'
          rw [hz] at q2
          go_wp2
          go_roundw
          case rel => exact ⟨1, by omega, by go_num, fun _ => unhide ha', by first | rfl | trivial⟩
          case measure => simp [intOf]
        · have hp : 0 < c.length := by omega
          go_wp2
          go_ret
          exact ⟨_, rfl, .inr ⟨by unfold whole_same; simp [ha], rfl⟩, hBW⟩
      have k1 : k = 1 := by omega
      subst k1
      have y0 := hide (unhide HZ0 (by omega))
      clear HZ0
      cases B with
      | false =>
        go_wp2_with (go_at_call 168; refine (unhide HGW).mono ?_; rintro e w09 ⟨rfl, hb09⟩)
        go_ret
        have hB := unhide HB
        refine ⟨_, rfl, .inr ⟨?_, rfl⟩, bstep hBW hb09⟩
        unfold whole_same
        cases hw : (trm a && trm b && (c.length == 0)) with
        | false => rfl
        | true =>
          exfalso
          have ta : trm a = true := by revert hw; cases trm a <;> simp
          have tb : trm b = true := by revert hw; cases trm b <;> simp
          obtain ⟨p, ea, Ta⟩ := K1.tree ta
          obtain ⟨q, eb, Tb⟩ := K2.tree tb
          rw [ea, eb] at hB
          simp at hB
      | true =>
        go_wp2_with (go_at_call 168; refine (unhide HGW).mono ?_; rintro e w09 ⟨rfl, hb09⟩)
        go_ret
        have hB := unhide HB
        have ta : trm a = true := by
          cases t : trm a with
          | true => rfl
          | false => rw [K1.none.mpr t] at hB; simp at hB
        have tb : trm b = true := by
          cases t : trm b with
          | true => rfl
          | false => rw [K2.none.mpr t] at hB; simp at hB
        obtain ⟨p, ea, Ta⟩ := K1.tree ta
        subst ea
        obtain ⟨q, eb, Tb⟩ := K2.tree tb
        subst eb
        refine ⟨_, rfl, .inl ⟨?_, p, q, rfl, Ta.below hb09, Tb.below hb09⟩, bstep hBW hb09⟩
        unfold whole_same
        simp [ta, tb, unhide y0]
  · obtain ⟨nb', q0, q1, q2⟩ := three_new w04 (.slice xa a.length xc) (.slice ya b.length yc) (.slice za c.length zc) 41
    have hbW := bstep (bstep (Below.refl w03.heap.size w03).drew hb04) nb'
    clear hb04 nb'
    have K1 := (unhide HK1).below hbW
    have K2 := (unhide HK2).below hbW
    have hBW := bstep hB03 hbW
    clear hbW g0 g1 g2 g3 ga0 ga1 ga2 ga3 i0 i1 i2 i3 n0 n1 n2 nb hn1 hl3a hl3 HK1 HK2 HK3 HTM hB03
    generalize w04.heap.size = L at q0 q1 q2 ⊢
    generalize w04.alloc (.cells #[.slice xa a.length xc, .slice ya b.length yc, .slice za c.length zc] 41) = W at *
    have HGW := hide (goalWhole_same o1 o2 W)
    obtain ⟨B, hB⟩ : ∃ B, B = (!decide (none ∈ ([o1, o2] : List (Option Nat)))) := ⟨_, rfl⟩
    rw [← hB] at HGW
    have HB := hide hB
    clear hB
    go_wp2
    go_loopw [65] (fun i wr => ∃ (k : Nat), k ≤ 1 ∧ i = .int .i64 k ∧ (0 < k → c.length = 0) ∧ wr = W) (fun i _ => 1 - (intOf i).toNat)
    case atStart => exact ⟨0, by omega, rfl, fun h => absurd h (by omega), rfl⟩
    case round =>
      obtain ⟨k, hk, rfl, z0, hwr⟩ := hrel
      subst hwr
      have HZ0 := hide z0
      clear z0
      by_cases k0 : k = 0
      · subst k0
        by_cases ha : c.length = 0
        · have ha' := hide ha
          clear ha
          have hz : c.length = 0 := unhide ha'
          rw [hz] at q2
          go_wp2
          go_roundw
          case rel => exact ⟨1, by omega, by go_num, fun _ => unhide ha', by first | rfl | trivial⟩
          case measure => simp [intOf]
        · have hp : 0 < c.length := by omega
          go_wp2
          go_ret
          exact ⟨_, rfl, .inr ⟨by unfold whole_same; simp [ha], rfl⟩, hBW⟩
      have k1 : k = 1 := by omega
      subst k1
      have y0 := hide (unhide HZ0 (by omega))
      clear HZ0
      cases B with
      | false =>
        go_wp2_with (go_at_call 168; refine (unhide HGW).mono ?_; rintro e w09 ⟨rfl, hb09⟩)
        go_ret
        have hB := unhide HB
        refine ⟨_, rfl, .inr ⟨?_, rfl⟩, bstep hBW hb09⟩
        unfold whole_same
        cases hw : (trm a && trm b && (c.length == 0)) with
        | false => rfl
        | true =>
          exfalso
          have ta : trm a = true := by revert hw; cases trm a <;> simp
          have tb : trm b = true := by revert hw; cases trm b <;> simp
          obtain ⟨p, ea, Ta⟩ := K1.tree ta
          obtain ⟨q, eb, Tb⟩ := K2.tree tb
          rw [ea, eb] at hB
          simp at hB
      | true =>
        go_wp2_with (go_at_call 168; refine (unhide HGW).mono ?_; rintro e w09 ⟨rfl, hb09⟩)
        go_ret
        have hB := unhide HB
        have ta : trm a = true := by
          cases t : trm a with
          | true => rfl
          | false => rw [K1.none.mpr t] at hB; simp at hB
        have tb : trm b = true := by
          cases t : trm b with
          | true => rfl
          | false => rw [K2.none.mpr t] at hB; simp at hB
        obtain ⟨p, ea, Ta⟩ := K1.tree ta
        subst ea
        obtain ⟨q, eb, Tb⟩ := K2.tree tb
        subst eb
        refine ⟨_, rfl, .inl ⟨?_, p, q, rfl, Ta.below hb09, Tb.below hb09⟩, bstep hBW hb09⟩
        unfold whole_same
        simp [ta, tb, unhide y0]
end Go.Proofs.Ytkedckmpjedjoaa

/- goalOf of a goal of the kind cut. -/
namespace Go.Proofs.Ytkedckmpjedjoaa
open Go.RowKit Go.Shelf
set_option linter.unusedVariables false
set_option linter.unusedSimpArgs false

/-- What may be a goal of this kind. -/
def whole_cut (a b c : List C) : Bool := (a.length == 0) && (b.length == 0) && (c.length == 0)
/-- The goal, or none. -/
def Goal_cut (lo hi : Nat) (a b c : List C) (W : World) (v : Value) : Prop := (whole_cut a b c = true ∧ v = .iface 243 (.agg #[])) ∨ (whole_cut a b c = false ∧ v = .nilIface)

set_option maxRecDepth 100000 in
set_option maxHeartbeats 4000000 in
theorem goalOf_cut (xa ya za : Option Addr) (xc yc zc : Nat) (a b c : List C) (w : World) (h : Trip w xa ya za a b c) (h1 : a.length ≤ xc ∧ xc ≤ maxLen) (h2 : b.length ≤ yc ∧ yc ≤ maxLen) (h3 : c.length ≤ zc ∧ zc ≤ maxLen) :
    Calls Try.prog 146 #[.agg #[.int .i64 3, .slice xa a.length xc, .slice ya b.length yc, .slice za c.length zc]] w fun e w' => ∃ v, e = .returned v ∧ Goal_cut w.heap.size w'.heap.size a b c w' v ∧ Below w.heap.size w w' := by
  have HA := hide (fun (W : World) (hW : Below w.heap.size w W) => treeOf_opt w.heap.size xa xc a W hW.size h1.1 h1.2 ((h.below hW).ra) h.fa)
  have HB := hide (fun (W : World) (hW : Below w.heap.size w W) => treeOf_opt w.heap.size ya yc b W hW.size h2.1 h2.2 ((h.below hW).rb) h.fb)
  have HC := hide (fun (W : World) (hW : Below w.heap.size w W) => treeOf_opt w.heap.size za zc c W hW.size h3.1 h3.2 ((h.below hW).rc) h.fc)
  have hla := h.la
  have hlb := h.lb
  have hlc := h.lc
  clear h h1 h2 h3
  obtain ⟨hb0, d1, d2, d3⟩ := four_new w (.int .i64 3) (.slice xa a.length xc) (.slice ya b.length yc) (.slice za c.length zc) 93
  have d0 : (w.alloc (.cells #[.int .i64 3, .slice xa a.length xc, .slice ya b.length yc, .slice za c.length zc] 93)).cell? ⟨w.heap.size, 0, none⟩ = some (.int .i64 3) := by
    have hb := World.alloc_heap_new w (.cells #[.int .i64 3, .slice xa a.length xc, .slice ya b.length yc, .slice za c.length zc] 93)
    simp only [World.cell?]; rw [hb]; rfl
  go_enter Try.func146, Try.ntmps146
  go_wp2
  generalize w.alloc (.cells #[.int .i64 3, .slice xa a.length xc, .slice ya b.length yc, .slice za c.length zc] 93) = w0 at hb0 d0 d1 d2 d3 ⊢
  have hl0 : w.heap.size < w0.heap.size := World.block_lt_of_cell? w0 ⟨_, _, none⟩ d1
  go_region_held3 (fun w' => w'.cell? ⟨w.heap.size, 0, none⟩ = some (.int .i64 3) ∧ w'.cell? ⟨w.heap.size, 1, none⟩ = some (.slice xa a.length xc) ∧ w'.cell? ⟨w.heap.size, 2, none⟩ = some (.slice ya b.length yc) ∧ w'.cell? ⟨w.heap.size, 3, none⟩ = some (.slice za c.length zc)) (first | (refine ⟨?_, ?_, ?_, ?_⟩ <;> assumption) | go_keep) (first
    | (go_at_call 116; have hx := hb02; refine (unhide HC w02 (by exact hB02)).mono ?_; rintro e w03 ⟨o3, rfl, hk3, hb03⟩; have g0 := (hb03.cell (p := ⟨w.heap.size, 0, none⟩) hl2).trans f0; have g1 := (hb03.cell (p := ⟨w.heap.size, 1, none⟩) hl2).trans f1; have g2 := (hb03.cell (p := ⟨w.heap.size, 2, none⟩) hl2).trans f2; have g3 := (hb03.cell (p := ⟨w.heap.size, 3, none⟩) hl2).trans f3; have hB03 := bstep hB02 hb03)
    | (go_at_call 116; have hx := hb01; refine (unhide HB w01 (by exact hB01)).mono ?_; rintro e w02 ⟨o2, rfl, hk2, hb02⟩; have f0 := (hb02.cell (p := ⟨w.heap.size, 0, none⟩) hl1).trans e0; have f1 := (hb02.cell (p := ⟨w.heap.size, 1, none⟩) hl1).trans e1; have f2 := (hb02.cell (p := ⟨w.heap.size, 2, none⟩) hl1).trans e2; have f3 := (hb02.cell (p := ⟨w.heap.size, 3, none⟩) hl1).trans e3; have hl2 : w.heap.size < w02.heap.size := World.block_lt_of_cell? w02 ⟨_, _, none⟩ f1; have hB02 := bstep hB01 hb02)
    | (go_at_call 116; refine (unhide HA w0.drew hb0.drew).mono ?_; rintro e w01 ⟨o1, rfl, hk1, hb01⟩; have e0 := (hb01.cell (p := ⟨w.heap.size, 0, none⟩) hl0).trans d0; have e1 := (hb01.cell (p := ⟨w.heap.size, 1, none⟩) hl0).trans d1; have e2 := (hb01.cell (p := ⟨w.heap.size, 2, none⟩) hl0).trans d2; have e3 := (hb01.cell (p := ⟨w.heap.size, 3, none⟩) hl0).trans d3; have hl1 : w.heap.size < w01.heap.size := World.block_lt_of_cell? w01 ⟨_, _, none⟩ e1; have hB01 := bstep hb0.drew hb01))
  have hl3 : w.heap.size < w03.heap.size := World.block_lt_of_cell? w03 ⟨_, _, none⟩ g1
  have HK1 := hide ((hk1.below hb02).below hb03)
  have HK2 := hide (hk2.below hb03)
  have HK3 := hide hk3
  clear hk1 hk2 hk3 hb01 hb02 hb03 hB01 hB02 hb0 d0 d1 d2 d3 e0 e1 e2 e3 f0 f1 f2 f3 HA HB HC hl0 hl1 hl2 hx
  have HTM := hide (fun (W : World) => terms_cut  W)
  obtain ⟨nb, n0, n1, n2⟩ := three_new w03 (.slice xa a.length xc) (.slice ya b.length yc) (.slice za c.length zc) 41
  have ga0 := (nb.cell (p := ⟨w.heap.size, 0, none⟩) hl3).trans g0
  have ga1 := (nb.cell (p := ⟨w.heap.size, 1, none⟩) hl3).trans g1
  have ga2 := (nb.cell (p := ⟨w.heap.size, 2, none⟩) hl3).trans g2
  have ga3 := (nb.cell (p := ⟨w.heap.size, 3, none⟩) hl3).trans g3
  have hl3a : w.heap.size < (w03.alloc (.cells #[.slice xa a.length xc, .slice ya b.length yc, .slice za c.length zc] 41)).heap.size := Nat.lt_of_lt_of_le hl3 nb.size
  have hn1 : w03.heap.size < (w03.alloc (.cells #[.slice xa a.length xc, .slice ya b.length yc, .slice za c.length zc] 41)).heap.size := World.block_lt_of_cell? _ ⟨_, _, none⟩ n0
  
  go_wp2
  go_region_held3 (fun w' => w'.cell? ⟨w.heap.size, 0, none⟩ = some (.int .i64 3) ∧ w'.cell? ⟨w.heap.size, 1, none⟩ = some (.slice xa a.length xc) ∧ w'.cell? ⟨w.heap.size, 2, none⟩ = some (.slice ya b.length yc) ∧ w'.cell? ⟨w.heap.size, 3, none⟩ = some (.slice za c.length zc)) (first | (refine ⟨?_, ?_, ?_, ?_⟩ <;> assumption) | go_keep) (first
    | (go_at_call 218; refine (unhide HTM _).mono ?_; rintro e w04 ⟨ao, cap, rfl, _, hb04⟩; simp only [List.length_nil, List.length_cons]; have i0 := (hb04.cell (p := ⟨w.heap.size, 0, none⟩) (by first | exact hl3 | exact hl3a)).trans (by first | exact g0 | exact ga0); have i1 := (hb04.cell (p := ⟨w.heap.size, 1, none⟩) (by first | exact hl3 | exact hl3a)).trans (by first | exact g1 | exact ga1); have i2 := (hb04.cell (p := ⟨w.heap.size, 2, none⟩) (by first | exact hl3 | exact hl3a)).trans (by first | exact g2 | exact ga2); have i3 := (hb04.cell (p := ⟨w.heap.size, 3, none⟩) (by first | exact hl3 | exact hl3a)).trans (by first | exact g3 | exact ga3)))
  · have q0 : w04.cell? ⟨w03.heap.size, 0, none⟩ = some (.slice xa a.length xc) := (hb04.cell (p := ⟨w03.heap.size, 0, none⟩) hn1).trans n0
    have q1 : w04.cell? ⟨w03.heap.size, 1, none⟩ = some (.slice ya b.length yc) := (hb04.cell (p := ⟨w03.heap.size, 1, none⟩) hn1).trans n1
    have q2 : w04.cell? ⟨w03.heap.size, 2, none⟩ = some (.slice za c.length zc) := (hb04.cell (p := ⟨w03.heap.size, 2, none⟩) hn1).trans n2
    have hbW : Below w03.heap.size w03 w04 := bstep nb.drew hb04
    clear hb04

    have hBW := bstep hB03 hbW
    clear hbW g0 g1 g2 g3 ga0 ga1 ga2 ga3 i0 i1 i2 i3 n0 n1 n2 nb hn1 hl3a hl3 HK1 HK2 HK3 HTM hB03
    generalize w03.heap.size = L at q0 q1 q2 ⊢
    generalize w04 = W at *
    have HGW := hide (goalWhole_cut  W)
    obtain ⟨B, hB⟩ : ∃ B, B = (!decide (none ∈ ([] : List (Option Nat)))) := ⟨_, rfl⟩
    rw [← hB] at HGW
    have HB := hide hB
    clear hB
    go_wp2
    go_loopw [65] (fun i wr => ∃ (k : Nat), k ≤ 3 ∧ i = .int .i64 k ∧ (0 < k → a.length = 0) ∧ (1 < k → b.length = 0) ∧ (2 < k → c.length = 0) ∧ wr = W) (fun i _ => 3 - (intOf i).toNat)
    case atStart => exact ⟨0, by omega, rfl, fun h => absurd h (by omega), fun h => absurd h (by omega), fun h => absurd h (by omega), rfl⟩
    case round =>
      obtain ⟨k, hk, rfl, z0, z1, z2, hwr⟩ := hrel
      subst hwr
      have HZ0 := hide z0
      have HZ1 := hide z1
      have HZ2 := hide z2
      clear z0 z1 z2
      by_cases k0 : k = 0
      · subst k0
        by_cases ha : a.length = 0
        · have ha' := hide ha
          clear ha
          have hz : a.length = 0 := unhide ha'
          rw [hz] at q0
          go_wp2
          go_roundw
          case rel => exact ⟨1, by omega, by go_num, fun _ => unhide ha', fun h => absurd h (by omega), fun h => absurd h (by omega), by first | rfl | trivial⟩
          case measure => simp [intOf]
        · have hp : 0 < a.length := by omega
          go_wp2
          go_ret
          exact ⟨_, rfl, .inr ⟨by unfold whole_cut; simp [ha], rfl⟩, hBW⟩
      by_cases k1 : k = 1
      · subst k1
        by_cases ha : b.length = 0
        · have ha' := hide ha
          clear ha
          have hz : b.length = 0 := unhide ha'
          rw [hz] at q1
          go_wp2
          go_roundw
          case rel => exact ⟨2, by omega, by go_num, fun _ => unhide HZ0 (by omega), fun _ => unhide ha', fun h => absurd h (by omega), by first | rfl | trivial⟩
          case measure => simp [intOf]
        · have hp : 0 < b.length := by omega
          go_wp2
          go_ret
          exact ⟨_, rfl, .inr ⟨by unfold whole_cut; simp [ha], rfl⟩, hBW⟩
      by_cases k2 : k = 2
      · subst k2
        by_cases ha : c.length = 0
        · have ha' := hide ha
          clear ha
          have hz : c.length = 0 := unhide ha'
          rw [hz] at q2
          go_wp2
          go_roundw
          case rel => exact ⟨3, by omega, by go_num, fun _ => unhide HZ0 (by omega), fun _ => unhide HZ1 (by omega), fun _ => unhide ha', by first | rfl | trivial⟩
          case measure => simp [intOf]
        · have hp : 0 < c.length := by omega
          go_wp2
          go_ret
          exact ⟨_, rfl, .inr ⟨by unfold whole_cut; simp [ha], rfl⟩, hBW⟩
      have k3 : k = 3 := by omega
      subst k3
      have y0 := hide (unhide HZ0 (by omega))
      have y1 := hide (unhide HZ1 (by omega))
      have y2 := hide (unhide HZ2 (by omega))
      clear HZ0 HZ1 HZ2
      cases B with
      | false =>
        go_wp2_with (go_at_call 168; refine (unhide HGW).mono ?_; rintro e w09 ⟨rfl, hb09⟩)
        go_ret
        have hB := unhide HB
        refine ⟨_, rfl, .inr ⟨?_, rfl⟩, bstep hBW hb09⟩
        unfold whole_cut
        exact absurd hB (by simp)
      | true =>
        go_wp2_with (go_at_call 168; refine (unhide HGW).mono ?_; rintro e w09 ⟨rfl, hb09⟩)
        go_ret
        have hB := unhide HB
        refine ⟨_, rfl, .inl ⟨?_, rfl⟩, bstep hBW hb09⟩
        unfold whole_cut
        simp [unhide y0, unhide y1, unhide y2]
  · obtain ⟨nb', q0, q1, q2⟩ := three_new w04 (.slice xa a.length xc) (.slice ya b.length yc) (.slice za c.length zc) 41
    have hbW := bstep (bstep (Below.refl w03.heap.size w03).drew hb04) nb'
    clear hb04 nb'

    have hBW := bstep hB03 hbW
    clear hbW g0 g1 g2 g3 ga0 ga1 ga2 ga3 i0 i1 i2 i3 n0 n1 n2 nb hn1 hl3a hl3 HK1 HK2 HK3 HTM hB03
    generalize w04.heap.size = L at q0 q1 q2 ⊢
    generalize w04.alloc (.cells #[.slice xa a.length xc, .slice ya b.length yc, .slice za c.length zc] 41) = W at *
    have HGW := hide (goalWhole_cut  W)
    obtain ⟨B, hB⟩ : ∃ B, B = (!decide (none ∈ ([] : List (Option Nat)))) := ⟨_, rfl⟩
    rw [← hB] at HGW
    have HB := hide hB
    clear hB
    go_wp2
    go_loopw [65] (fun i wr => ∃ (k : Nat), k ≤ 3 ∧ i = .int .i64 k ∧ (0 < k → a.length = 0) ∧ (1 < k → b.length = 0) ∧ (2 < k → c.length = 0) ∧ wr = W) (fun i _ => 3 - (intOf i).toNat)
    case atStart => exact ⟨0, by omega, rfl, fun h => absurd h (by omega), fun h => absurd h (by omega), fun h => absurd h (by omega), rfl⟩
    case round =>
      obtain ⟨k, hk, rfl, z0, z1, z2, hwr⟩ := hrel
      subst hwr
      have HZ0 := hide z0
      have HZ1 := hide z1
      have HZ2 := hide z2
      clear z0 z1 z2
      by_cases k0 : k = 0
      · subst k0
        by_cases ha : a.length = 0
        · have ha' := hide ha
          clear ha
          have hz : a.length = 0 := unhide ha'
          rw [hz] at q0
          go_wp2
          go_roundw
          case rel => exact ⟨1, by omega, by go_num, fun _ => unhide ha', fun h => absurd h (by omega), fun h => absurd h (by omega), by first | rfl | trivial⟩
          case measure => simp [intOf]
        · have hp : 0 < a.length := by omega
          go_wp2
          go_ret
          exact ⟨_, rfl, .inr ⟨by unfold whole_cut; simp [ha], rfl⟩, hBW⟩
      by_cases k1 : k = 1
      · subst k1
        by_cases ha : b.length = 0
        · have ha' := hide ha
          clear ha
          have hz : b.length = 0 := unhide ha'
          rw [hz] at q1
          go_wp2
          go_roundw
          case rel => exact ⟨2, by omega, by go_num, fun _ => unhide HZ0 (by omega), fun _ => unhide ha', fun h => absurd h (by omega), by first | rfl | trivial⟩
          case measure => simp [intOf]
        · have hp : 0 < b.length := by omega
          go_wp2
          go_ret
          exact ⟨_, rfl, .inr ⟨by unfold whole_cut; simp [ha], rfl⟩, hBW⟩
      by_cases k2 : k = 2
      · subst k2
        by_cases ha : c.length = 0
        · have ha' := hide ha
          clear ha
          have hz : c.length = 0 := unhide ha'
          rw [hz] at q2
          go_wp2
          go_roundw
          case rel => exact ⟨3, by omega, by go_num, fun _ => unhide HZ0 (by omega), fun _ => unhide HZ1 (by omega), fun _ => unhide ha', by first | rfl | trivial⟩
          case measure => simp [intOf]
        · have hp : 0 < c.length := by omega
          go_wp2
          go_ret
          exact ⟨_, rfl, .inr ⟨by unfold whole_cut; simp [ha], rfl⟩, hBW⟩
      have k3 : k = 3 := by omega
      subst k3
      have y0 := hide (unhide HZ0 (by omega))
      have y1 := hide (unhide HZ1 (by omega))
      have y2 := hide (unhide HZ2 (by omega))
      clear HZ0 HZ1 HZ2
      cases B with
      | false =>
        go_wp2_with (go_at_call 168; refine (unhide HGW).mono ?_; rintro e w09 ⟨rfl, hb09⟩)
        go_ret
        have hB := unhide HB
        refine ⟨_, rfl, .inr ⟨?_, rfl⟩, bstep hBW hb09⟩
        unfold whole_cut
        exact absurd hB (by simp)
      | true =>
        go_wp2_with (go_at_call 168; refine (unhide HGW).mono ?_; rintro e w09 ⟨rfl, hb09⟩)
        go_ret
        have hB := unhide HB
        refine ⟨_, rfl, .inl ⟨?_, rfl⟩, bstep hBW hb09⟩
        unfold whole_cut
        simp [unhide y0, unhide y1, unhide y2]
end Go.Proofs.Ytkedckmpjedjoaa
