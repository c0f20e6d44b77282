/- The walk of l20Spoil. -/
import Derived.Test.YtjjpmlcaapedhaaDoorQD4
import Derived.Deep.RegionWith
import Derived.Deep.DeepMust
namespace Go.Proofs.YtjjpmlcaapedhaaDoor
open Go.RowKit
set_option linter.unusedVariables false
set_option linter.unusedSimpArgs false

theorem own_some {w : World} {base : Nat} {v : Value} {t : List C} (h : OwnC w base v t) (hl : 1 ≤ t.length) : ∃ g cap, v = .slice (some ⟨g, 0, none⟩) t.length cap ∧ base ≤ g ∧ g < w.heap.size ∧ t.length ≤ cap := by
  rcases h.2 with ⟨e, hn⟩ | ⟨g, cap, cur, e, hb, hg, hc, _⟩
  · omega
  · exact ⟨g, cap, e, hb, (Array.getElem?_eq_some_iff.1 hg).1, hc⟩

/-- What a write into a row of one's own leaves. -/
theorem drew_set {w W : World} {R p g cap : Nat} {t t' : List C} {xs : List Value} (hb : R < w.heap.size) (hg : w.grownBy W (some R)) (hR : Rd W R p) (hgb : w.heap.size ≤ g) (a : Addr) (ha : a.block = g) (u : Value) : w.grownBy (W.setCell a u) (some R) ∧ Rd (W.setCell a u) R p :=
  ⟨grown_set hg (by omega) u, hR.set (by omega) u⟩

theorem grown_undrew {w w4 : World} {row : Option Nat} (h : w.drew.grownBy w4 row) : w.grownBy w4 row := ⟨h.os, h.tape, h.output, h.size, h.block⟩
theorem cell_keep {w : World} {a : Addr} {v : Value} (h : w.cell? a = some v) (o : Obj) : (w.alloc o).cell? a = some v :=
  (World.cell?_of_block (Below.heap_alloc w o a.block (World.block_lt_of_cell? w a h))).trans h
theorem frozen_keep {w w4 : World} {R g off : Nat} (hG : w.grownBy w4 (some R)) (hg : g < w.heap.size) (hR : g ≠ R) (h : w.frozen? ⟨g, off, none⟩ = false) : w4.frozen? ⟨g, off, none⟩ = false :=
  (World.frozen?_of_block (a := ⟨g, off, none⟩) (hG.block g hg (by simpa using hR))).trans h
theorem frozen_keep2 {w w4 : World} {R g off : Nat} {o : Obj} (hG : (w.alloc o).grownBy w4 (some R)) (hg : g < w.heap.size) (hR : g ≠ R) (h : w.frozen? ⟨g, off, none⟩ = false) : w4.frozen? ⟨g, off, none⟩ = false :=
  (World.frozen?_of_block (a := ⟨g, off, none⟩) ((hG.block g (by simp; omega) (by simpa using hR)).trans (Below.heap_alloc w o g hg))).trans h

/-- The four numbers that may be added. -/
theorem lit4 (j : Nat) (hj : j < 4) : ∃ x : Int, -99999 ≤ x ∧ x ≤ 99999 ∧ (∀ W : World, (W.alloc (.cells #[.int .i64 1, .int .i64 (-1), .int .i64 99999, .int .i64 (-99999)] 3)).cell? ⟨W.heap.size, j, none⟩ = some (.int .i64 x)) ∧
    ∀ (W w2 : World) (R : Nat), R < W.heap.size → (W.alloc (.cells #[.int .i64 1, .int .i64 (-1), .int .i64 99999, .int .i64 (-99999)] 3)).grownBy w2 (some R) → w2.cell? ⟨W.heap.size, j, none⟩ = some (.int .i64 x) := by
  have hb : ∀ x ∈ ([1, -1, 99999, -99999] : List Int), -99999 ≤ x ∧ x ≤ 99999 := by decide
  have hx := hb _ (List.getElem_mem (l := [1, -1, 99999, -99999]) (n := j) (by simp; omega))
  exact ⟨([1, -1, 99999, -99999] : List Int)[j]'(by simp; omega), hx.1, hx.2, fun W => lit_ints W [1, -1, 99999, -99999] 3 j (by simp; omega), fun W w2 R hR hg => pick_lit (xs := [1, -1, 99999, -99999]) hR hg (by simp; omega)⟩

theorem drew_alloc {P : C → Prop} {w w' : World} {R p lo hi d : Nat} {e : Ending} (h : Drew P w R p lo hi d e w') (o : Obj) : Drew P w R p lo hi d e (w'.alloc o) := by
  obtain ⟨v, t, p', he, h1, h2, h3, h4, h5, h6, h7⟩ := h
  exact ⟨v, t, p', he, World.ownsRow.alloc h1 _, h2, h3, h4, h5.alloc _, h6, grown_trans h7 (grown_alloc _ _ _)⟩

theorem spoil_n {w W : World} {R p g cp k : Nat} {t : List C} {c : C} {x : Int} (hlt : R < w.heap.size) (hgb : w.heap.size ≤ g) (hk : k < t.length) (hc : c = t[k]) (hD : ∀ d ∈ t, Dc d) (hDs : Ds c) (hx0 : -99999 ≤ x) (hx1 : x ≤ 99999) (h40 : t.length ≤ 40)
    (hO : OwnC W w.heap.size (.slice (some ⟨g, 0, none⟩) t.length cp) t) (hR : Rd W R (p + 1 + 1 + 1)) (hg : w.grownBy W (some R)) :
    Drew Dc w R p 0 41 3 (.returned (.slice (some ⟨g, 0, none⟩) t.length cp)) (W.setCell ⟨g, k * 3 + 1, none⟩ (.int .i64 (IntKind.i64.wrap (c.n + x)))) := by
  have hds := hDs
  have hwr : IntKind.i64.wrap (c.n + x) = c.n + x := by
    obtain ⟨h1, h2, h3, h4, h5⟩ := hDs
    simp [IntKind.wrap, IntKind.bits, IntKind.signed]
    omega
  rw [hwr]
  have hst := (hO.stored (k * 3 + 1) (.int .i64 (c.n + x))).1
  rw [flat_set_n t k hk] at hst
  have hO5 : OwnC (W.setCell ⟨g, k * 3 + 1, none⟩ (.int .i64 (c.n + x))) w.heap.size (.slice (some ⟨g, 0, none⟩) t.length cp) (t.set k ⟨t[k].k, c.n + x, t[k].s⟩) := by unfold OwnC; rw [List.length_set]; exact hst
  obtain ⟨h1, h2, h3, h4, h5⟩ := hDs
  have hdc5 : Dc ⟨t[k].k, c.n + x, t[k].s⟩ := by rw [← hc]; exact dc_mk h1 h2 (by omega) (by omega) h5
  exact drew_mk hO5 (Nat.zero_le _) (by simp; omega) (all_set hD hdc5) (hR.set (by show R < g; omega) _) (by omega) (grown_set hg hgb _)

set_option maxRecDepth 100000 in
set_option maxHeartbeats 4000000 in
theorem spoil_any (R p b off cap : Nat) (t : List C) (w : World) (h1 : 1 ≤ t.length) (h40 : t.length ≤ 40) (hD : ∀ c ∈ t, Ds c) (hA : At w b off t) (hp : p ≤ 999990000) (h : Rd w R p) :
    Calls Tryd.prog 36 #[.pointer (some ⟨R, 0, none⟩), .slice (some ⟨b, off, none⟩) t.length cap] w fun e w' => Drew Dc w R p 0 41 3 e w' := by
  obtain ⟨i0, hi, hz0, hz1, hz2⟩ := info_parts Tryd.infoCell
  have hlt := h.lt
  have HDs := hide hD
  have HD : Hid (∀ c ∈ t, Dc c) := fun c hc => (hD c hc).dc
  clear hD
  have hA1 : At (w.alloc (.cells #[] 49)) b off t := hA.below (cell_below _ _)
  go_enter Tryd.func36, Tryd.ntmps36
  go_wp2_with (at_builtin; refine wpList_append_own _ rfl _ _ 23 rfl w.heap.size 49 i0 _ 3 32 Tryd.underlying23 hi hz0 hz1 hz2 rfl (by decide) _ _ _ rfl (World.ownsRow_made w #[] 0 (Nat.le_refl _) (by simp [maxLen]) rfl) ⟨b, off, none⟩ t.length cap (flat t) rfl (flat_length t) hA1.each (flat_one t) ?s3 ?s4 ?s5 ?_)
  case s3 => unfold maxLen; omega
  case s4 => omega
  case s5 => simp
  intro v1 w1 ho1 hG1 _
  have hO1 : OwnC w1 w.heap.size v1 t := ho1
  have hg1 : w.grownBy w1 (some R) := grown_own (grown_refl _ _) hG1 (fun k e => by simp [Value.ownBlock] at e; omega)
  have hR1 : Rd w1 R p := (h.alloc _).grown hG1 (fun k e => by simp [Value.ownBlock] at e; omega)
  clear ho1 hG1
  obtain ⟨g, cp, rfl, hgb, hgl, hcp⟩ := own_some hO1 h1
  go_wp2_with fail
  refine (pick_any R p t.length _ (by omega) (by omega) (by omega) hR1).mono ?_
  rintro e w2 ⟨r, rfl, hr0, hr1, hR2, hG2⟩
  obtain ⟨k, rfl⟩ := Int.eq_ofNat_of_zero_le hr0
  have hk : k < t.length := by omega
  have hg2 := grown_trans hg1 hG2
  have hO2 : OwnC w2 w.heap.size (.slice (some ⟨g, 0, none⟩) t.length cp) t := own_apart hO1 hG2 (fun j e => .inl (by cases e; exact hlt))
  clear hG2 hO1 hr0 hr1
  go_wp2_with fail
  refine (pick_any R (p + 1) 7 _ (by omega) (by omega) (by omega) hR2).mono ?_
  rintro e w3 ⟨s, rfl, hs0, hs1, hR3, hG3⟩
  have hg3 := grown_trans hg2 hG3
  have hO3 : OwnC w3 w.heap.size (.slice (some ⟨g, 0, none⟩) t.length cp) t := own_apart hO2 hG3 (fun j e => .inl (by cases e; exact hlt))
  have hgl3 : g < w3.heap.size := (hO3.lt g rfl).2
  clear hG3 hO2
  obtain ⟨d0, d1, d2, f0, f1, f2⟩ := own_place hO3 hk
  obtain ⟨c, hc⟩ : ∃ c, c = t[k] := ⟨_, rfl⟩
  rw [← hc] at d0 d1 d2
  have hDs : Ds c := by rw [hc]; exact unhide HDs _ (List.getElem_mem hk)
  have HC := hide hc
  clear hc
  have HDc := hide hDs.dc
  have HDS := hide hDs
  obtain ⟨hk0, hk4, hn0, hn1, hss⟩ := hDs
  obtain rfl | rfl | rfl | rfl | rfl | rfl | rfl : s = 0 ∨ s = 1 ∨ s = 2 ∨ s = 3 ∨ s = 4 ∨ s = 5 ∨ s = 6 := by omega
  · have hcut := own_cut hO3 (k := k) (by omega)
    go_wp2
    go_ret
    exact drew_mk hcut (Nat.zero_le _) (by simp; omega) (fun d hd => unhide HD d (List.mem_of_mem_take hd)) hR3 (by omega) hg3
  · go_wp2_with (at_builtin; refine wpList_append_own _ rfl _ _ 23 rfl w.heap.size 49 i0 _ 3 32 Tryd.underlying23 hi hz0 hz1 hz2 rfl (by decide) _ _ _ rfl (World.ownsRow.alloc hO3 _) ⟨w3.heap.size, 0, none⟩ 1 1 [.int .i64 c.k, .int .i64 c.n, .string c.s] rfl rfl (cell_three_new _ _ _ _ _) ?u2 ?u3 ?u4 ?u5 ?_)
    case u2 => intro u hu; simp at hu; rcases hu with rfl | rfl | rfl <;> rfl
    case u3 => unfold maxLen; omega
    case u4 => omega
    case u5 => have := hg3.size; simp; omega
    intro v5 w5 hown' hgrow _
    have RR := draw_app (c := c) hlt hg3 hR3 hO3 hown' hgrow
    clear hown' hgrow
    go_wp2
    go_ret
    exact drew_mk RR.1 (Nat.zero_le _) (by simp; omega) (all_snoc (unhide HD) (unhide HDc)) RR.2.1 (by omega) RR.2.2
  · go_wp2
    go_region_with (go_at_call 20; refine (pick_any R (p + 1 + 1) 4 _ (by omega) (by omega) (by omega) (by first | exact hR3 | exact hR3.alloc _)).mono ?_; rintro e w4 ⟨r4, rfl, h40', h41, hR4, hG4d⟩; have hG4 := grown_undrew hG4d; clear hG4d; obtain ⟨j, rfl⟩ := Int.eq_ofNat_of_zero_le h40'; have hx1 := hG4.cell (a := ⟨g, k * 3 + 1, none⟩) (v := .int .i64 c.n) (by first | exact d1 | exact cell_keep d1 _) (by simp; omega); have hf1 : w4.frozen? ⟨g, k * 3 + 1, none⟩ = false := (by first | exact frozen_keep hG4 hgl3 (by omega) f1 | exact frozen_keep2 hG4 hgl3 (by omega) f1); have hgl4 : g < w4.heap.size := World.block_lt_of_cell? w4 ⟨g, _, none⟩ hx1; obtain ⟨x, hx0, hxx, hl1, hl2⟩ := lit4 j (by omega); first | (have hq := hl2 w3 w4 R hR3.lt hG4; have FIN := hide (spoil_n hlt hgb hk (unhide HC) (unhide HD) (unhide HDS) hx0 hxx h40 (own_apart (World.ownsRow.alloc hO3 _) hG4 (fun j e => .inl (by cases e; exact hlt))) hR4 (grown_trans hg3 (grown_first hG4)))) | have FIN := hide (drew_alloc (spoil_n hlt hgb hk (unhide HC) (unhide HD) (unhide HDS) hx0 hxx h40 (own_apart hO3 hG4 (fun j e => .inl (by cases e; exact hlt))) hR4 (grown_trans hg3 hG4)) (.cells #[.int .i64 1, .int .i64 (-1), .int .i64 99999, .int .i64 (-99999)] 3)))
    all_goals go_wp2
    all_goals go_ret
    all_goals exact unhide FIN
  · go_wp2_with fail
    refine (pick_any R (p + 1 + 1) 4 _ (by omega) (by omega) (by omega) (hR3.alloc _)).mono ?_
    rintro e w4 ⟨r4, rfl, h40', h41, hR4, hG4⟩
    obtain ⟨j, rfl⟩ := Int.eq_ofNat_of_zero_le h40'
    have hq := pick_lits (xs := [ByteArray.mk #[], ByteArray.mk #[116, 111, 111, 108, 111, 110, 103, 110, 97, 109, 101], ByteArray.mk #[65], ByteArray.mk #[97]]) hR3.lt hG4 (j := j) (by simp; omega)
    have hx : ∀ x ∈ [ByteArray.mk #[], ByteArray.mk #[116, 111, 111, 108, 111, 110, 103, 110, 97, 109, 101], ByteArray.mk #[65], ByteArray.mk #[97]], x.size ≤ 11 := by decide
    have hx' := hx _ (List.getElem_mem (l := [ByteArray.mk #[], ByteArray.mk #[116, 111, 111, 108, 111, 110, 103, 110, 97, 109, 101], ByteArray.mk #[65], ByteArray.mk #[97]]) (n := j) (by simp; omega))
    obtain ⟨x, hxe⟩ : ∃ x : ByteArray, x = ([ByteArray.mk #[], ByteArray.mk #[116, 111, 111, 108, 111, 110, 103, 110, 97, 109, 101], ByteArray.mk #[65], ByteArray.mk #[97]] : List ByteArray)[j]'(by simp; omega) := ⟨_, rfl⟩
    rw [← hxe] at hq hx'
    clear hxe hx d0 d1 d2 f0 f1 f2
    have hO4 : OwnC w4 w.heap.size (.slice (some ⟨g, 0, none⟩) t.length cp) t := own_apart (World.ownsRow.alloc hO3 _) hG4 (fun j e => .inl (by cases e; exact hlt))
    have hg4 := grown_trans hg3 (grown_first hG4)
    obtain ⟨d0, d1, d2, f0, f1, f2⟩ := own_place hO4 hk
    have hst := (hO4.stored (k * 3 + 2) (.string x)).1
    rw [flat_set_s t k hk] at hst
    have hO5 : OwnC (w4.setCell ⟨g, k * 3 + 2, none⟩ (.string x)) w.heap.size (.slice (some ⟨g, 0, none⟩) t.length cp) (t.set k ⟨t[k].k, t[k].n, x⟩) := by unfold OwnC; rw [List.length_set]; exact hst
    have hdc5 : Dc ⟨t[k].k, t[k].n, x⟩ := by rw [← unhide HC]; exact dc_mk hk0 hk4 (by omega) (by omega) hx'
    clear hst
    go_wp2
    go_ret
    exact drew_mk hO5 (Nat.zero_le _) (by simp; omega) (all_set (unhide HD) hdc5) (hR4.set (by show R < g; omega) _) (by omega) (grown_set hg4 hgb _)
  · go_wp2_with fail
    refine (pick_any R (p + 1 + 1) 5 _ (by omega) (by omega) (by omega) hR3).mono ?_
    rintro e w4 ⟨r4, rfl, h40', h41, hR4, hG4⟩
    clear d0 d1 d2 f0 f1 f2
    have hO4 : OwnC w4 w.heap.size (.slice (some ⟨g, 0, none⟩) t.length cp) t := own_apart hO3 hG4 (fun j e => .inl (by cases e; exact hlt))
    have hg4 := grown_trans hg3 hG4
    obtain ⟨d0, d1, d2, f0, f1, f2⟩ := own_place hO4 hk
    have hst := (hO4.stored (k * 3) (.int .i64 r4)).1
    rw [flat_set_k t k hk] at hst
    have hO5 : OwnC (w4.setCell ⟨g, k * 3, none⟩ (.int .i64 r4)) w.heap.size (.slice (some ⟨g, 0, none⟩) t.length cp) (t.set k ⟨r4, t[k].n, t[k].s⟩) := by unfold OwnC; rw [List.length_set]; exact hst
    have hdc5 : Dc ⟨r4, t[k].n, t[k].s⟩ := by rw [← unhide HC]; exact dc_mk (by omega) (by omega) (by omega) (by omega) hss
    clear hst
    go_wp2
    go_ret
    exact drew_mk hO5 (Nat.zero_le _) (by simp; omega) (all_set (unhide HD) hdc5) (hR4.set (by show R < g; omega) _) (by omega) (grown_set hg4 hgb _)
  · clear d0 d1 d2 f0 f1 f2
    go_wp2
    go_loopw [5] (fun v wr => ∃ (u : List C), OwnC wr w.heap.size v u ∧ 1 ≤ u.length ∧ u.length ≤ 41 ∧ (∀ d ∈ u, Dc d) ∧ Rd wr R (p + 1 + 1) ∧ w.grownBy wr (some R)) (fun v _ => 41 - lenV v)
    case atStart => exact ⟨t, hO3, h1, by omega, unhide HD, hR3, hg3⟩
    case round =>
      obtain ⟨u, hOu, hu1, hu2, hDu, hRu, hgu⟩ := hrel
      have HDu := hide hDu
      have hln := hide (lenV_own hOu)
      clear hDu
      obtain ⟨au, cu, rfl, _⟩ := hOu.shape
      by_cases hul : u.length ≤ 40
      · go_wp2_with (at_builtin; refine wpList_append_own _ rfl _ _ 23 rfl w.heap.size 49 i0 _ 3 32 Tryd.underlying23 hi hz0 hz1 hz2 rfl (by decide) _ _ _ rfl (World.ownsRow.alloc hOu _) ⟨wr.heap.size, 0, none⟩ 1 1 [.int .i64 3, .int .i64 1, .string (ByteArray.mk #[102])] rfl rfl (cell_three_new _ _ _ _ _) ?y2 ?y3 ?y4 ?y5 ?_)
        case y2 => intro u hu; simp at hu; rcases hu with rfl | rfl | rfl <;> rfl
        case y3 => unfold maxLen; omega
        case y4 => omega
        case y5 => have := hgu.size; simp; omega
        intro v5 w5 hown' hgrow _
        have RR := draw_app (c := ⟨3, 1, ByteArray.mk #[102]⟩) hlt hgu hRu hOu hown' hgrow
        have hl5 := hide (lenV_own RR.1)
        clear hown' hgrow
        go_wp2
        go_roundw
        case rel => exact ⟨u ++ [⟨3, 1, ByteArray.mk #[102]⟩], RR.1, by simp, by simp; omega, all_snoc (unhide HDu) (dc_mk (by decide) (by decide) (by decide) (by decide) (by decide)), RR.2.1, RR.2.2⟩
        case measure => rw [unhide hl5]; simp [lenV]; omega
      · go_wp2
        go_ret
        exact drew_mk hOu (Nat.zero_le _) (by omega) (unhide HDu) hRu (by omega) hgu
  · go_wp2_with fail
    refine (pick_any R (p + 1 + 1) 3 _ (by omega) (by omega) (by omega) (hR3.alloc _)).mono ?_
    rintro e w4 ⟨r4, rfl, h40', h41, hR4, hG4⟩
    obtain ⟨j, rfl⟩ := Int.eq_ofNat_of_zero_le h40'
    have hq := pick_lit (xs := [99999, 100000, -1]) hR3.lt hG4 (j := j) (by simp; omega)
    have hx : ∀ x ∈ ([99999, 100000, -1] : List Int), -1000000 ≤ x ∧ x ≤ 1000000 := by decide
    have hx' := hx _ (List.getElem_mem (l := [99999, 100000, -1]) (n := j) (by simp; omega))
    obtain ⟨x, hxe⟩ : ∃ x : Int, x = ([99999, 100000, -1] : List Int)[j]'(by simp; omega) := ⟨_, rfl⟩
    rw [← hxe] at hq hx'
    clear hxe hx d0 d1 d2 f0 f1 f2
    have hO4 : OwnC w4 w.heap.size (.slice (some ⟨g, 0, none⟩) t.length cp) t := own_apart (World.ownsRow.alloc hO3 _) hG4 (fun j e => .inl (by cases e; exact hlt))
    have hg4 := grown_trans hg3 (grown_first hG4)
    obtain ⟨d0, d1, d2, f0, f1, f2⟩ := own_place hO4 hk
    have hst := (((hO4.stored (k * 3) (.int .i64 1)).1.stored (k * 3 + 1) (.int .i64 x)).1.stored (k * 3 + 2) (.string (ByteArray.mk #[]))).1
    rw [flat_set3 t k hk ⟨1, x, ByteArray.mk #[]⟩] at hst
    have hO5 : OwnC (((w4.setCell ⟨g, k * 3, none⟩ (.int .i64 1)).setCell ⟨g, k * 3 + 1, none⟩ (.int .i64 x)).setCell ⟨g, k * 3 + 2, none⟩ (.string (ByteArray.mk #[]))) w.heap.size (.slice (some ⟨g, 0, none⟩) t.length cp) (t.set k ⟨1, x, ByteArray.mk #[]⟩) := by unfold OwnC; rw [List.length_set]; exact hst
    have hdc5 : Dc ⟨1, x, ByteArray.mk #[]⟩ := dc_mk (by omega) (by omega) (by omega) (by omega) (by decide)
    clear hst
    go_wp2
    go_ret
    exact drew_mk hO5 (Nat.zero_le _) (by simp; omega) (all_set (unhide HD) hdc5) (((hR4.set (by show R < g; omega) _).set (by show R < g; omega) _).set (by show R < g; omega) _) (by omega) (grown_set (grown_set (grown_set hg4 hgb _) hgb _) hgb _)
end Go.Proofs.YtjjpmlcaapedhaaDoor
