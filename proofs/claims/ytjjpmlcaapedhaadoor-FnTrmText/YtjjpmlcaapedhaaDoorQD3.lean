/- What is drawn: places of a term (l20Term). -/
import Derived.Test.YtjjpmlcaapedhaaDoorQD2W15
namespace Go.Proofs.YtjjpmlcaapedhaaDoor
open Go.RowKit
set_option linter.unusedVariables false
set_option linter.unusedSimpArgs false

/-- How long a slice value is: for a loop's measure. -/
def lenV : Value → Nat
  | .slice _ n _ => n
  | _ => 0

theorem own_setc {w : World} {base e size n : Nat} {v : Value} {xs : List Value} (h : w.ownsRow base e size v n xs) {p : Addr} (hp : ∀ k, v.ownBlock = some k → k ≠ p.block) (u : Value) : (w.setCell p u).ownsRow base e size v n xs := by
  refine h.kept (row := some p.block) ⟨rfl, rfl, rfl, by simp [World.setCell], fun k hk hn => Below.heap_setCell w p u k (fun e => hn (by rw [e]))⟩ ?_
  cases hv : v.ownBlock with
  | none => exact .inl rfl
  | some k => exact .inr (fun e => hp k hv (by simpa using e))

theorem grown_own {w W w5 : World} {R : Nat} {o : Obj} {v : Value} (h : w.grownBy W (some R)) (hg : (W.alloc o).grownBy w5 v.ownBlock) (hv : ∀ k, v.ownBlock = some k → w.heap.size ≤ k) : w.grownBy w5 (some R) := by
  have h1 := grown_trans h (grown_alloc W o (some R))
  exact ⟨hg.os.trans h1.os, hg.tape.trans h1.tape, hg.output.trans h1.output, Nat.le_trans h1.size hg.size, fun k hk hn => (hg.block k (Nat.lt_of_lt_of_le hk h1.size) (fun e => by have := hv k e.symm; omega)).trans (h1.block k hk hn)⟩

/-- What an append leaves of places that were drawn. -/
theorem draw_app {w W w5 : World} {R p : Nat} {v v' : Value} {t : List C} {c : C} (hb : R < w.heap.size) (hg : w.grownBy W (some R)) (hR : Rd W R p) (hown : OwnC W w.heap.size v t)
    (hown' : w5.ownsRow w.heap.size 49 3 v' (t.length + 1) (flat t ++ [.int .i64 c.k, .int .i64 c.n, .string c.s])) (hgrow : (W.alloc (.cells #[.int .i64 c.k, .int .i64 c.n, .string c.s] 49)).grownBy w5 v.ownBlock) :
    OwnC w5 w.heap.size v' (t ++ [c]) ∧ Rd w5 R p ∧ w.grownBy w5 (some R) := by
  refine ⟨?_, ?_, grown_own hg hgrow (fun k e => (hown.lt k e).1)⟩
  · unfold OwnC
    rw [show (t ++ [c]).length = t.length + 1 by simp, flat_append]
    exact hown'
  · exact (hR.alloc _).grown hgrow (fun k e => Nat.lt_of_lt_of_le hb (hown.lt k e).1)

theorem lenV_own {w : World} {base : Nat} {v : Value} {t : List C} (h : OwnC w base v t) : lenV v = t.length := by
  obtain ⟨ao, cap, rfl, _⟩ := h.shape
  rfl

theorem all_snoc {P : C → Prop} {t : List C} {c : C} (h : ∀ d ∈ t, P d) (hc : P c) : ∀ d ∈ t ++ [c], P d := fun d hd => by
  rcases List.mem_append.1 hd with h' | h'
  · exact h d h'
  · simp at h'; subst h'; exact hc

theorem size3 (w : World) (a b c : Addr) (x y z : Value) : (((w.setCell a x).setCell b y).setCell c z).heap.size = w.heap.size := by simp [World.setCell]

/-- Places were drawn: from lo to hi of them, all within bounds; the reader has gone on, by at most d. -/
def Drew (P : C → Prop) (w : World) (R p lo hi d : Nat) (e : Ending) (w' : World) : Prop :=
  ∃ v t p', e = .returned v ∧ OwnC w' w.heap.size v t ∧ lo ≤ t.length ∧ t.length ≤ hi ∧ (∀ c ∈ t, P c) ∧ Rd w' R p' ∧ p' ≤ p + d ∧ w.grownBy w' (some R)
theorem drew_mk {P : C → Prop} {w w' : World} {R p lo hi d p' : Nat} {v : Value} {t : List C} (h1 : OwnC w' w.heap.size v t) (h2 : lo ≤ t.length) (h3 : t.length ≤ hi) (h4 : ∀ c ∈ t, P c) (h5 : Rd w' R p') (h6 : p' ≤ p + d) (h7 : w.grownBy w' (some R)) : Drew P w R p lo hi d (.returned v) w' :=
  ⟨v, t, p', rfl, h1, h2, h3, h4, h5, h6, h7⟩

set_option maxHeartbeats 4000000 in
theorem term_any (R p : Nat) (most n : Int) (w : World) (hm1 : 1 ≤ most) (hm2 : most ≤ 40) (hn : 1 ≤ n) (hn2 : n ≤ 1000) (hp : p ≤ 999990000) (h : Rd w R p) :
    Calls Tryd.prog 34 #[.pointer (some ⟨R, 0, none⟩), .int .i64 most, .int .i64 n] w fun e w' => Drew Ds w R p 1 40 200 e w' := by
  obtain ⟨i0, hi, hz0, hz1, hz2⟩ := info_parts Tryd.infoCell
  have hlt := h.lt
  go_enter Tryd.func34, Tryd.ntmps34
  go_wp2
  go_loopw [7, 8] (fun v i wr => ∃ (t : List C) (o : Int) (p' : Nat), OwnC wr w.heap.size v t ∧ i = .int .i64 o ∧ 0 ≤ o ∧ t.length + o ≤ most ∧ (t.length = 0 → o = 1) ∧ (∀ c ∈ t, Ds c) ∧ Rd wr R p' ∧ p' ≤ p + 5 * t.length ∧ w.grownBy wr (some R)) (fun v _ _ => 40 - lenV v)
  case atStart => exact ⟨[], 1, p, World.ownsRow_made w #[] 0 (Nat.le_refl _) (by simp [maxLen]) rfl, rfl, by omega, by simp; omega, fun _ => rfl, fun c hc => by simp at hc, h.alloc _, by simp, grown_alloc _ _ _⟩
  case round =>
    obtain ⟨t, o, p', hown, rfl, ho, hto, ht0, hD, hR, hp', hG⟩ := hrel
    have HD := hide hD
    have HT0 := hide ht0
    have hln := hide (lenV_own hown)
    clear hD ht0
    obtain ⟨ao, cp, rfl, _⟩ := hown.shape
    by_cases hop : 0 < o
    · have hlr := hR.lt
      go_wp2_with fail
      refine (leaf_any R p' n _ hn hn2 (by omega) hR).mono ?_
      rintro e w1 ⟨c, rfl, hDc, hc3, hR1, hG1⟩
      have HDc := hide hDc
      have HC3 := hide hc3
      obtain ⟨hck0, hck4, hcn0, hcn1, hcs⟩ := hDc
      clear hc3
      have ho1 : OwnC w1 w.heap.size (.slice ao t.length cp) t := own_apart hown hG1 (fun k e => .inl (by cases e; exact hlt))
      have hg1 := grown_trans hG hG1
      have hs1 : wr.heap.size ≤ w1.heap.size := hG1.size
      have hws : w.heap.size ≤ wr.heap.size := hG.size
      have hvb : ∀ k, (Value.slice ao t.length cp).ownBlock = some k → k < w1.heap.size := fun k e => (ho1.lt k e).2
      have HVB := hide hvb
      clear hvb
      by_cases hcond : (t.length : Int) + o + 3 < most
      · go_wp2_with fail
        refine (pick_any R (p' + 2) 3 _ (by omega) (by omega) (by omega) (hR1.alloc _)).mono ?_
        rintro e w2 ⟨r, rfl, hr0, hr1, hR2, hG2⟩
        have hg2 := grown_trans hg1 (grown_first hG2)
        have ho2 : OwnC w2 w.heap.size (.slice ao t.length cp) t := own_apart (World.ownsRow.alloc ho1 _) hG2 (fun k e => .inl (by cases e; exact hlt))
        have hs2 : w1.heap.size < w2.heap.size := by have := hG2.size; simp at this; omega
        have hbx : w2.heap[w1.heap.size]? = some (.cells #[.int .i64 c.k, .int .i64 c.n, .string c.s] 49 (0, 0)) := (hG2.block w1.heap.size (by simp) (by simp; omega)).trans (heap_alloc_new w1 _)
        have HBX := hide hbx
        clear hbx hG2
        by_cases hr : r = 0
        · have hrb : (r == 0) = true := by simpa using hr
          clear hr
          go_wp2_with fail
          refine (pick_any R (p' + 2 + 1) 3 _ (by omega) (by omega) (by omega) hR2).mono ?_
          rintro e w3 ⟨r2, rfl, hr20, hr21, hR3, hG3⟩
          have hg3 := grown_trans hg2 hG3
          have ho3 : OwnC w3 w.heap.size (.slice ao t.length cp) t := own_apart ho2 hG3 (fun k e => .inl (by cases e; exact hlt))
          have hs3 : w1.heap.size < w3.heap.size := Nat.lt_of_lt_of_le hs2 hG3.size
          have HBX3 := hide ((hG3.block w1.heap.size hs2 (by simp; omega)).trans (unhide HBX))
          clear hG3
          go_wp2_with fail
          refine (pick_any R (p' + 2 + 1 + 1) 4 _ (by omega) (by omega) (by omega) (hR3.alloc _)).mono ?_
          rintro e w4 ⟨r3, rfl, hr30, hr31, hR4, hG4⟩
          obtain ⟨j, rfl⟩ := Int.eq_ofNat_of_zero_le hr30
          have hq := pick_lits (xs := [ByteArray.mk #[102], ByteArray.mk #[103], ByteArray.mk #[99], ByteArray.mk #[115]]) hR3.lt hG4 (j := j) (by simp; omega)
          have hx : ∀ x ∈ [ByteArray.mk #[102], ByteArray.mk #[103], ByteArray.mk #[99], ByteArray.mk #[115]], x.size ≤ 11 := by decide
          have hx' := hx _ (List.getElem_mem (l := [ByteArray.mk #[102], ByteArray.mk #[103], ByteArray.mk #[99], ByteArray.mk #[115]]) (n := j) (by simp; omega))
          obtain ⟨x, hxe⟩ : ∃ x : ByteArray, x = ([ByteArray.mk #[102], ByteArray.mk #[103], ByteArray.mk #[99], ByteArray.mk #[115]] : List ByteArray)[j]'(by simp; omega) := ⟨_, rfl⟩
          rw [← hxe] at hq hx'
          clear hxe hx
          have hg4 := grown_trans hg3 (grown_first hG4)
          have ho4 : OwnC w4 w.heap.size (.slice ao t.length cp) t := own_apart (World.ownsRow.alloc ho3 _) hG4 (fun k e => .inl (by cases e; exact hlt))
          have hs4 : w1.heap.size < w4.heap.size := by have := hG4.size; simp at this; omega
          obtain ⟨q0, q1, q2, f0, f1, f2⟩ := agg_cells ((hG4.block w1.heap.size (by simp; omega) (by simp; omega)).trans ((Below.heap_alloc w3 _ _ hs3).trans (unhide HBX3)))
          clear hG4
          have hdc5 : Ds ⟨3, 1 + r2, x⟩ := ds_mk (by omega) (by omega) (by omega) (by omega) hx'
          have ho5 : OwnC (((w4.setCell ⟨w1.heap.size, 0, none⟩ (.int .i64 3)).setCell ⟨w1.heap.size, 1, none⟩ (.int .i64 (1 + r2))).setCell ⟨w1.heap.size, 2, none⟩ (.string x)) w.heap.size (.slice ao t.length cp) t :=
            own_setc (own_setc (own_setc ho4 (fun k e => Nat.ne_of_lt (unhide HVB k e)) _) (fun k e => Nat.ne_of_lt (unhide HVB k e)) _) (fun k e => Nat.ne_of_lt (unhide HVB k e)) _
          have hR5 : Rd (((w4.setCell ⟨w1.heap.size, 0, none⟩ (.int .i64 3)).setCell ⟨w1.heap.size, 1, none⟩ (.int .i64 (1 + r2))).setCell ⟨w1.heap.size, 2, none⟩ (.string x)) R (p' + 2 + 1 + 1 + 1) :=
            ((hR4.set (by show R < w1.heap.size; omega) _).set (by show R < w1.heap.size; omega) _).set (by show R < w1.heap.size; omega) _
          have hg5 : w.grownBy (((w4.setCell ⟨w1.heap.size, 0, none⟩ (.int .i64 3)).setCell ⟨w1.heap.size, 1, none⟩ (.int .i64 (1 + r2))).setCell ⟨w1.heap.size, 2, none⟩ (.string x)) (some R) :=
            grown_set (grown_set (grown_set hg4 (by show w.heap.size ≤ w1.heap.size; omega) _) (by show w.heap.size ≤ w1.heap.size; omega) _) (by show w.heap.size ≤ w1.heap.size; omega) _
          go_wp2_with (at_builtin; refine wpList_append_own _ rfl _ _ 23 rfl w.heap.size 49 i0 _ 3 32 Tryd.underlying23 hi hz0 hz1 hz2 rfl (by decide) _ _ _ rfl (World.ownsRow.alloc ho5 _) ⟨w4.heap.size, 0, none⟩ 1 1 [.int .i64 3, .int .i64 (1 + r2), .string x] rfl rfl ?z1 ?z2 ?z3 ?z4 ?z5 ?_)
          case z1 => intro j u hj; have := cell_three_new (((w4.setCell ⟨w1.heap.size, 0, none⟩ (.int .i64 3)).setCell ⟨w1.heap.size, 1, none⟩ (.int .i64 (1 + r2))).setCell ⟨w1.heap.size, 2, none⟩ (.string x)) _ _ _ 49 j u hj; rw [size3] at this; exact this
          case z2 => intro u hu; simp at hu; rcases hu with rfl | rfl | rfl <;> rfl
          case z3 => unfold maxLen; omega
          case z4 => omega
          case z5 => simp; omega
          · intro v' w5 hown' hgrow _
            have RR := draw_app (c := ⟨3, 1 + r2, x⟩) hlt hg5 hR5 ho5 hown' hgrow
            have hl5 := hide (lenV_own RR.1)
            clear hown' hgrow
            go_wp2
            go_roundw
            case rel => exact ⟨t ++ [⟨3, 1 + r2, x⟩], o - 1 + (1 + r2), p' + 2 + 1 + 1 + 1, RR.1, by go_num, by omega, by simp; omega, by simp, all_snoc (unhide HD) hdc5, RR.2.1, by simp; omega, RR.2.2⟩
            case measure => rw [unhide hl5]; simp [lenV]; omega
        · have hrb : (r == 0) = false := by simpa using hr
          clear hr
          obtain ⟨q0, q1, q2, f0, f1, f2⟩ := agg_cells (unhide HBX)
          by_cases hk3 : c.k = 3
          · have hb3 : (c.k == 3) = true := by simpa using hk3
            have hcn : c.n = 0 := unhide HC3 hk3
            have hcn' : c.n ≤ 0 := by omega
            have hcn'' : 0 ≤ c.n := by omega
            clear hcn hk3
            go_wp2_with (at_builtin; refine wpList_append_own _ rfl _ _ 23 rfl w.heap.size 49 i0 _ 3 32 Tryd.underlying23 hi hz0 hz1 hz2 rfl (by decide) _ _ _ rfl (World.ownsRow.alloc ho2 _) ⟨w2.heap.size, 0, none⟩ 1 1 [.int .i64 c.k, .int .i64 c.n, .string c.s] rfl rfl ?bx1 ?bx2 ?bx3 ?bx4 ?bx5 ?_)
            case bx1 => exact cell_three_new _ _ _ _ _
            case bx2 => intro u hu; simp at hu; rcases hu with rfl | rfl | rfl <;> rfl
            case bx3 => unfold maxLen; omega
            case bx4 => omega
            case bx5 => simp; omega
            · intro v' w5 hown' hgrow _
              have RR := draw_app (c := c) hlt hg2 hR2 ho2 hown' hgrow
              have hl5 := hide (lenV_own RR.1)
              clear hown' hgrow
              go_wp2
              go_roundw
              case rel => exact ⟨t ++ [c], o - 1 + c.n, p' + 2 + 1, RR.1, by go_num, by omega, by simp; omega, by simp, all_snoc (unhide HD) (unhide HDc), RR.2.1, by simp; omega, RR.2.2⟩
              case measure => rw [unhide hl5]; simp [lenV]; omega
          · have hb3 : (c.k == 3) = false := by simpa using hk3
            clear hk3
            go_wp2_with (at_builtin; refine wpList_append_own _ rfl _ _ 23 rfl w.heap.size 49 i0 _ 3 32 Tryd.underlying23 hi hz0 hz1 hz2 rfl (by decide) _ _ _ rfl (World.ownsRow.alloc ho2 _) ⟨w2.heap.size, 0, none⟩ 1 1 [.int .i64 c.k, .int .i64 c.n, .string c.s] rfl rfl ?by1 ?by2 ?by3 ?by4 ?by5 ?_)
            case by1 => exact cell_three_new _ _ _ _ _
            case by2 => intro u hu; simp at hu; rcases hu with rfl | rfl | rfl <;> rfl
            case by3 => unfold maxLen; omega
            case by4 => omega
            case by5 => simp; omega
            · intro v' w5 hown' hgrow _
              have RR := draw_app (c := c) hlt hg2 hR2 ho2 hown' hgrow
              have hl5 := hide (lenV_own RR.1)
              clear hown' hgrow
              go_wp2
              go_roundw
              case rel => exact ⟨t ++ [c], o - 1, p' + 2 + 1, RR.1, by go_num, by omega, by simp; omega, by simp, all_snoc (unhide HD) (unhide HDc), RR.2.1, by simp; omega, RR.2.2⟩
              case measure => rw [unhide hl5]; simp [lenV]; omega
      · have hcd : decide ((t.length : Int) + o + 3 < most) = false := by simpa using hcond
        by_cases hk3 : c.k = 3
        · have hb3 : (c.k == 3) = true := by simpa using hk3
          have hcn : c.n = 0 := unhide HC3 hk3
          have hcn' : c.n ≤ 0 := by omega
          have hcn'' : 0 ≤ c.n := by omega
          clear hcn hk3
          go_wp2_with (at_builtin; refine wpList_append_own _ rfl _ _ 23 rfl w.heap.size 49 i0 _ 3 32 Tryd.underlying23 hi hz0 hz1 hz2 rfl (by decide) _ _ _ rfl (World.ownsRow.alloc (World.ownsRow.alloc ho1 _) _) ⟨w1.heap.size + 1, 0, none⟩ 1 1 [.int .i64 c.k, .int .i64 c.n, .string c.s] rfl rfl ?ax1 ?ax2 ?ax3 ?ax4 ?ax5 ?_)
          case ax1 => intro j u hj; have := cell_three_new (w1.alloc (.cells #[.int .i64 c.k, .int .i64 c.n, .string c.s] 49)) _ _ _ 49 j u hj; rw [World.size_alloc] at this; exact this
          case ax2 => intro u hu; simp at hu; rcases hu with rfl | rfl | rfl <;> rfl
          case ax3 => unfold maxLen; omega
          case ax4 => omega
          case ax5 => simp; omega
          · intro v' w5 hown' hgrow _
            have RR := draw_app (c := c) hlt (grown_trans hg1 (grown_alloc _ _ _)) (hR1.alloc _) (World.ownsRow.alloc ho1 _) hown' hgrow
            have hl5 := hide (lenV_own RR.1)
            clear hown' hgrow
            go_wp2
            go_roundw
            case rel => exact ⟨t ++ [c], o - 1 + c.n, p' + 2, RR.1, by go_num, by omega, by simp; omega, by simp, all_snoc (unhide HD) (unhide HDc), RR.2.1, by simp; omega, RR.2.2⟩
            case measure => rw [unhide hl5]; simp [lenV]; omega
        · have hb3 : (c.k == 3) = false := by simpa using hk3
          clear hk3
          go_wp2_with (at_builtin; refine wpList_append_own _ rfl _ _ 23 rfl w.heap.size 49 i0 _ 3 32 Tryd.underlying23 hi hz0 hz1 hz2 rfl (by decide) _ _ _ rfl (World.ownsRow.alloc (World.ownsRow.alloc ho1 _) _) ⟨w1.heap.size + 1, 0, none⟩ 1 1 [.int .i64 c.k, .int .i64 c.n, .string c.s] rfl rfl ?ay1 ?ay2 ?ay3 ?ay4 ?ay5 ?_)
          case ay1 => intro j u hj; have := cell_three_new (w1.alloc (.cells #[.int .i64 c.k, .int .i64 c.n, .string c.s] 49)) _ _ _ 49 j u hj; rw [World.size_alloc] at this; exact this
          case ay2 => intro u hu; simp at hu; rcases hu with rfl | rfl | rfl <;> rfl
          case ay3 => unfold maxLen; omega
          case ay4 => omega
          case ay5 => simp; omega
          · intro v' w5 hown' hgrow _
            have RR := draw_app (c := c) hlt (grown_trans hg1 (grown_alloc _ _ _)) (hR1.alloc _) (World.ownsRow.alloc ho1 _) hown' hgrow
            have hl5 := hide (lenV_own RR.1)
            clear hown' hgrow
            go_wp2
            go_roundw
            case rel => exact ⟨t ++ [c], o - 1, p' + 2, RR.1, by go_num, by omega, by simp; omega, by simp, all_snoc (unhide HD) (unhide HDc), RR.2.1, by simp; omega, RR.2.2⟩
            case measure => rw [unhide hl5]; simp [lenV]; omega
    · have h1l : 1 ≤ t.length := by
        by_cases h0 : t.length = 0
        · have := unhide HT0 h0; omega
        · omega
      go_wp2
      go_ret
      exact drew_mk hown h1l (by omega) (unhide HD) hR (by omega) hG
end Go.Proofs.YtjjpmlcaapedhaaDoor
