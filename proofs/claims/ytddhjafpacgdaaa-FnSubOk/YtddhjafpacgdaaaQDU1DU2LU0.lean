import Derived.Test.YtddhjafpacgdaaaQD5Open2D6
import Derived.Test.YtddhjafpacgdaaaQW4W6SB2
import Derived.Test.YtddhjafpacgdaaaQDB2
import Derived.Test.YtddhjafpacgdaaaQPT2
/- What is drawn for SubUnify: a term near another one; the walks of l20Near and of DrawSubUnify. -/
namespace Go.Proofs.Ytddhjafpacgdaaa
open Go.RowKit
set_option linter.unusedVariables false
set_option linter.unusedSimpArgs false

set_option maxHeartbeats 1000000 in
theorem l1End_dc (b off cap p : Nat) (t : List C) (w : World) (hm : t.length ≤ 41) (hp : p < t.length) (hA : At w b off t) (hD : ∀ c ∈ t, Dc c) :
    Calls Try.prog 66 #[.slice (some ⟨b, off, none⟩) t.length cap, .int .i64 p] w fun e w' => ∃ r : Int, e = .returned (.int .i64 r) ∧ (r = -1 ∨ ∃ q : Nat, r = q ∧ p < q ∧ q ≤ t.length) ∧ w' = w := by
  have HD := hide hD
  clear hD
  go_enter Try.func66, Try.ntmps66
  go_wp2
  go_loop [5, 6] (fun o i => ∃ (j : Nat) (m : Int), p ≤ j ∧ j ≤ t.length ∧ i = .int .i64 j ∧ o = .int .i64 m ∧ -(1000001 * ((j : Int) + 1)) ≤ m ∧ m ≤ 1000001 * ((j : Int) + 1) ∧ (j = p → m = 1)) (fun _ i => t.length - (intOf i).toNat)
  case atStart => exact ⟨p, 1, Nat.le_refl _, by omega, rfl, rfl, by omega, by omega, fun _ => rfl⟩
  case round =>
    obtain ⟨j, m, hpj, hj, rfl, rfl, hm0, hm1, hg⟩ := hrel
    have H := hide hg
    clear hg
    by_cases hmp : 0 < m
    · by_cases hlt : j < t.length
      · obtain ⟨c0, c1, c2⟩ := hA j hlt
        obtain ⟨_, _, hn0, hn1, _⟩ := unhide HD _ (List.getElem_mem hlt)
        obtain ⟨c, hc⟩ : ∃ c, c = t[j] := ⟨_, rfl⟩
        rw [← hc] at c0 c1 c2 hn0 hn1
        clear hc
        by_cases h3 : c.k = 3
        · have hb : (c.k == 3) = true := by simpa using h3
          clear h3
          go_wp2
          go_round
          case rel => exact ⟨j + 1, m - 1 + c.n, by omega, by omega, by go_num, by go_num, by omega, by omega, by omega⟩
          case measure => simp [intOf]; omega
        · have hb : (c.k == 3) = false := by simpa using h3
          clear h3
          go_wp2
          go_round
          case rel => exact ⟨j + 1, m - 1, by omega, by omega, by go_num, by go_num, by omega, by omega, by omega⟩
          case measure => simp [intOf]; omega
      · go_wp2
        go_ret
        exact ⟨-1, rfl, .inl rfl, rfl⟩
    · go_wp2
      go_ret
      have := unhide H
      exact ⟨j, rfl, .inr ⟨j, rfl, by omega, by omega⟩, rfl⟩

/-- A term near another one was drawn. -/
def DrewN (base : Nat) (w : World) (R p d : Nat) (e : Ending) (w' : World) : Prop :=
  ∃ v u p', e = .returned v ∧ OwnC w' base v u ∧ u.length ≤ 41 ∧ (∀ c ∈ u, Dc c) ∧ Rd w' R p' ∧ p' ≤ p + d ∧ w.grownBy w' (some R)

set_option maxRecDepth 100000 in
set_option maxHeartbeats 4000000 in
theorem near_any (R p base : Nat) (ao : Option Addr) (cp : Nat) (t : List C) (w : World) (hp : p ≤ 999990000) (h : Rd w R p) (hR0 : R < base) (hbs : base ≤ w.heap.size) (hO : OwnC w base (.slice ao t.length cp) t) (hl : t.length ≤ 41) (hD : ∀ c ∈ t, Dc c) :
    Calls Try.prog 75 #[.pointer (some ⟨R, 0, none⟩), .slice ao t.length cp] w (DrewN base w R p 82) := by
  obtain ⟨i0, hi, hz0, hz1, hz2⟩ := info_parts Try.infoCell
  have HD := hide hD
  have hlt := h.lt
  clear hD
  go_enter Try.func75, Try.ntmps75
  go_wp2
  go_loopw [5, 6] (fun v i wr => ∃ (u : List C) (k p' : Nat), OwnC wr w.heap.size v u ∧ i = .int .i64 k ∧ k ≤ t.length ∧ u.length ≤ k ∧ (∀ c ∈ u, Dc c) ∧ Rd wr R p' ∧ p' ≤ p + 2 * k ∧ w.grownBy wr (some R)) (fun _ i _ => t.length - (intOf i).toNat)
  case atStart => exact ⟨[], 0, p, World.ownsRow_made w #[] 0 (Nat.le_refl _) (by simp [maxLen]) rfl, rfl, Nat.zero_le _, by simp, by simp, h.alloc _, by simp, grown_alloc _ _ _⟩
  case round =>
    obtain ⟨u, k, p', hown, rfl, hk, huk, hDu, hR, hp', hG⟩ := hrel
    have HDu := hide hDu
    clear hDu
    obtain ⟨uo, uc, rfl, _⟩ := hown.shape
    have hOr : OwnC wr base (.slice ao t.length cp) t := own_apart hO hG (fun k e => .inl (by cases e; exact hR0))
    have hws := hG.size
    by_cases hkt : k < t.length
    · obtain ⟨g, cq, e, hgb, hgl, _⟩ := own_some hOr (by omega)
      simp only [Value.slice.injEq] at e
      obtain ⟨rfl, _, rfl⟩ := e
      have HE := hide (l1End_dc g 0 cp k t wr hl hkt (owns_at hOr rfl) (unhide HD))
      go_wp2_with fail
      refine (unhide HE).mono ?_
      rintro e w1 ⟨r, rfl, hr, hw1⟩
      subst hw1
      rcases hr with rfl | ⟨q, rfl, hq0, hq1⟩
      · go_wp2
        go_ret
        exact ⟨_, t, p', rfl, hOr, hl, unhide HD, hR, by omega, hG⟩
      · go_wp2_with fail
        refine (pick_any R p' 4 _ (by omega) (by omega) (by omega) hR).mono ?_
        rintro e w2 ⟨r2, rfl, hr20, hr21, hR2, hG2⟩
        have hg2 := grown_trans hG hG2
        have ho2 : OwnC w2 w.heap.size (.slice uo u.length uc) u := own_apart hown hG2 (fun k e => .inl (by cases e; exact hlt))
        have hO2 : OwnC w2 base (.slice (some ⟨g, 0, none⟩) t.length cp) t := own_apart hOr hG2 (fun k e => .inl (by cases e; exact hR0))
        clear hown hOr hG2 HE
        by_cases hr : r2 = 0
        · have hrb : (r2 == 0) = true := by simpa using hr
          clear hr
          go_wp2_with fail
          refine (pick_any R (p' + 1) 8 _ (by omega) (by omega) (by omega) hR2).mono ?_
          rintro e w3 ⟨r3, rfl, hr30, hr31, hR3, hG3⟩
          have hg3 := grown_trans hg2 hG3
          have ho3 : OwnC w3 w.heap.size (.slice uo u.length uc) u := own_apart ho2 hG3 (fun k e => .inl (by cases e; exact hlt))
          clear ho2 hG3
          have hs3 := hg3.size
          have hdc : Dc ⟨1, r3, ByteArray.mk #[]⟩ := dc_mk (by omega) (by omega) (by omega) (by omega) (by decide)
          go_wp2_with (at_builtin; refine wpList_append_own _ rfl _ _ 23 rfl w.heap.size 36 i0 _ 3 32 Try.underlying23 hi hz0 hz1 hz2 rfl (by decide) _ _ _ rfl (World.ownsRow.alloc ho3 _) ⟨w3.heap.size, 0, none⟩ 1 1 [.int .i64 1, .int .i64 r3, .string (ByteArray.mk #[])] rfl rfl ?bx1 ?bx2 ?bx3 ?bx4 ?bx5 ?_)
          case bx1 => exact cell_three_new _ _ _ _ _
          case bx2 => intro u hu; simp at hu; rcases hu with rfl | rfl | rfl <;> rfl
          case bx3 => unfold maxLen; omega
          case bx4 => omega
          case bx5 => simp; omega
          · intro v' w5 hown' hgrow _
            have RR := draw_app (c := ⟨1, r3, ByteArray.mk #[]⟩) hlt hg3 hR3 ho3 hown' hgrow
            clear hown' hgrow
            go_wp2
            go_roundw
            case rel => exact ⟨u ++ [⟨1, r3, ByteArray.mk #[]⟩], q, p' + 1 + 1, RR.1, rfl, hq1, by simp; omega, fun c hc => by
              rcases List.mem_append.1 hc with hc | hc
              · exact unhide HDu c hc
              · simp at hc; subst hc; exact hdc, RR.2.1, by omega, RR.2.2⟩
            case measure => simp [intOf]; omega
        · have hrb : (r2 == 0) = false := by simpa using hr
          clear hr
          have hs2 := hg2.size
          obtain ⟨c0, c1, c2⟩ := (owns_at hO2 rfl) k hkt
          have hdc := unhide HD _ (List.getElem_mem hkt)
          generalize t[k] = c at c0 c1 c2 hdc
          simp only [Nat.zero_add] at c0 c1 c2
          go_wp2_with (at_builtin; refine wpList_append_own _ rfl _ _ 23 rfl w.heap.size 36 i0 _ 3 32 Try.underlying23 hi hz0 hz1 hz2 rfl (by decide) _ _ _ rfl (World.ownsRow.alloc ho2 _) ⟨w2.heap.size, 0, none⟩ 1 1 [.int .i64 c.k, .int .i64 c.n, .string c.s] rfl rfl ?bx1 ?bx2 ?bx3 ?bx4 ?bx5 ?_)
          case bx1 => exact cell_three_new _ _ _ _ _
          case bx2 => intro u hu; simp at hu; rcases hu with rfl | rfl | rfl <;> rfl
          case bx3 => unfold maxLen; omega
          case bx4 => omega
          case bx5 => simp; omega
          · intro v' w5 hown' hgrow _
            have RR := draw_app (c := c) hlt hg2 hR2 ho2 hown' hgrow
            clear hown' hgrow
            go_wp2
            go_roundw
            case rel => exact ⟨u ++ [c], k + 1, p' + 1, RR.1, by go_num, by omega, by simp; omega, fun d hd => by
              rcases List.mem_append.1 hd with hd | hd
              · exact unhide HDu d hd
              · simp at hd; subst hd; exact hdc, RR.2.1, by omega, RR.2.2⟩
            case measure => simp [intOf]; omega
    · go_wp2
      go_ret
      exact ⟨_, u, p', rfl, hown.base hbs, by omega, unhide HDu, hR, by omega, hG⟩
end Go.Proofs.Ytddhjafpacgdaaa

/- The walk of DrawSubUnify. -/
namespace Go.Proofs.Ytddhjafpacgdaaa
open Go.RowKit
set_option linter.unusedVariables false
set_option linter.unusedSimpArgs false

/-- Bindings and two terms were drawn. -/
def DrewU (w : World) (v : Value) (s : List B) (x : Value) (a : List C) (y : Value) (b : List C) (w' : World) : Prop :=
  OwnB w' w.heap.size w'.heap.size v s ∧ FewB s ∧ OwnC w' w.heap.size x a ∧ a.length ≤ 41 ∧ (∀ c ∈ a, Dc c) ∧ OwnC w' w.heap.size y b ∧ b.length ≤ 41 ∧ (∀ c ∈ b, Dc c) ∧ Below w.heap.size w w'

theorem FewK.nil (k : Nat) : FewK k [] := ⟨by simp, fun x h => by simp at h, fun x h => by simp at h, [], by simp, fun x h => by simp at h⟩
theorem ownB_lit (w : World) : OwnB (w.alloc (.cells #[] 51)) w.heap.size (w.alloc (.cells #[] 51)).heap.size (.slice (some ⟨w.heap.size, 0, none⟩) 0 0) [] :=
  ⟨[], rfl, by simpa [flatB] using World.ownsRow_made w #[] 0 (Nat.le_refl _) (by simp [maxLen]) rfl, fun i h => by simp at h, by simp, by simp, fun k e => by simp [Value.ownBlock] at e; subst e; simp⟩

set_option maxRecDepth 100000 in
set_option maxHeartbeats 4000000 in
theorem drawSubUnify_any (ao : Option Addr) (len cap : Nat) (z : Nat → Int) (w : World) (h : Bin w ao len cap z) :
    Calls Try.prog 34 #[.slice ao len cap] w fun e w' => ∃ v s x a y b, e = .returned (.tuple #[v, x, y]) ∧ DrewU w v s x a y b w' := by
  go_enter Try.func34, Try.ntmps34
  go_wp2_with fail
  refine (open_any ao len cap z _ h).mono ?_
  rintro e w1 ⟨rfl, hR1, hb1⟩
  have hl1 := hR1.lt
  go_wp2_with fail
  refine (bindsOr_any w.heap.size 0 20 _ (by omega) (by omega) (by omega) hR1).mono ?_
  rintro e w2 ⟨v, s, p2, rfl, hO2, hF2, hR2, hp2, hG2⟩
  have HF2 := hide hF2
  have hs2 := hG2.size
  have hb2 : Below w.heap.size w w2 := hb1.grown hG2 (by omega) (fun k e => by cases e; exact Nat.le_refl _)
  clear hF2 hG2 hb1
  go_wp2_with fail
  refine (pick_any w.heap.size p2 3 _ (by omega) (by omega) (by omega) hR2).mono ?_
  rintro e w3 ⟨r3, rfl, hr30, hr31, hR3, hG3⟩
  have hs3 := hG3.size
  have hb3 : Below w.heap.size w w3 := hb2.grown hG3 (by omega) (fun k e => by cases e; exact Nat.le_refl _)
  have hO3 := (hO2.grown (Nat.le_refl _) hG3 (fun k e => .inl (by cases e; exact hl1)))
  clear hG3 hO2 hb2
  by_cases hr3 : r3 = 0
  · have hrb3 : (r3 == 0) = true := by simpa using hr3
    clear hr3
    have hRx := hR3.alloc (.cells #[] 51)
    have hOx := ownB_lit w3
    have hbx : Below w.heap.size w (w3.alloc (.cells #[] 51)) := bstep hb3 (cell_below _ _)
    have HF0 := hide (FewK.nil 10)
    have hz3 := hb3.size
    have hlW := hRx.lt
    have hzW := hbx.size
    go_wp2_with fail
    refine (termOr_any w.heap.size (p2 + 1) 20 _ (by omega) (by omega) (by omega) hRx).mono ?_
    rintro e w4 ⟨x, a, p4, rfl, hO4, _, hla, hDa, hR4, hp4, hG4⟩
    have HDa := hide hDa
    clear hDa
    obtain ⟨xa, xc, rfl, _⟩ := hO4.shape
    have hs4 := hG4.size
    have hb4 : Below w.heap.size w w4 := hbx.grown hG4 (by omega) (fun k e => by cases e; exact Nat.le_refl _)
    have hB4 := hOx.grown (Nat.le_refl _) hG4 (fun k e => .inl (by cases e; omega))
    clear hG4
    go_wp2_with fail
    refine (pick_any w.heap.size p4 3 _ (by omega) (by omega) (by omega) hR4).mono ?_
    rintro e w5 ⟨r5, rfl, hr50, hr51, hR5, hG5⟩
    have hs5 := hG5.size
    have hb5 : Below w.heap.size w w5 := hb4.grown hG5 (by omega) (fun k e => by cases e; exact Nat.le_refl _)
    have hB5 := hB4.grown (by first | omega | (simp at hs4 ⊢; omega)) hG5 (fun k e => .inl (by cases e; omega))
    have hO5 := own_apart hO4 hG5 (fun k e => .inl (by cases e; omega))
    clear hG5 hO4 hB4 hb4
    by_cases hr5 : r5 > 0
    · have hrb5 : decide (r5 > 0) = true := by simpa using hr5
      have HN := hide (near_any w.heap.size (p4 + 1) _ xa xc a w5 (by omega) hR5 hlW (by omega) hO5 hla (unhide HDa))
      clear hr5
      go_wp2_with fail
      refine (unhide HN).mono ?_
      rintro e w6 ⟨y, b, p6, rfl, hO6, hlb, hDb, hR6, hp6, hG6⟩
      have hs6 := hG6.size
      have hO56 : OwnC w6 _ (.slice xa a.length xc) a := own_apart hO5 hG6 (fun k e => .inl (by cases e; omega))
      have HFIN : Hid (DrewU w (.slice (some ⟨w3.heap.size, 0, none⟩) 0 0) [] (.slice xa a.length xc) a y b w6) := ⟨((hB5.grown (by first | omega | (simp at hs4 ⊢; omega)) hG6 (fun k e => .inl (by cases e; omega))).hi_le (by first | omega | (simp at hs4 ⊢; omega))).lo_le (by omega), unhide HF0, hO56.base (by omega), hla, unhide HDa, hO6.base (by omega), hlb, hDb, hb5.grown hG6 (by omega) (fun k e => by cases e; exact Nat.le_refl _)⟩
      clear hO6 hDb hR6 hG6 hO5 hB5 HN
      go_wp2
      go_ret3
      exact ⟨_, _, _, _, _, _, rfl, unhide HFIN⟩
    · have hrb5 : decide (r5 > 0) = false := by simpa using hr5
      clear hr5
      go_wp2_with fail
      refine (termOr_any w.heap.size (p4 + 1) 20 _ (by omega) (by omega) (by omega) hR5).mono ?_
      rintro e w6 ⟨y, b, p6, rfl, hO6, _, hlb, hDb, hR6, hp6, hG6⟩
      have hs6 := hG6.size
      have hO56 : OwnC w6 _ (.slice xa a.length xc) a := own_apart hO5 hG6 (fun k e => .inl (by cases e; omega))
      have HFIN : Hid (DrewU w (.slice (some ⟨w3.heap.size, 0, none⟩) 0 0) [] (.slice xa a.length xc) a y b w6) := ⟨((hB5.grown (by first | omega | (simp at hs4 ⊢; omega)) hG6 (fun k e => .inl (by cases e; omega))).hi_le (by first | omega | (simp at hs4 ⊢; omega))).lo_le (by omega), unhide HF0, hO56.base (by omega), hla, unhide HDa, hO6.base (by omega), hlb, hDb, hb5.grown hG6 (by omega) (fun k e => by cases e; exact Nat.le_refl _)⟩
      clear hO6 hDb hR6 hG6 hO5 hB5
      go_wp2
      go_ret3
      exact ⟨_, _, _, _, _, _, rfl, unhide HFIN⟩
  · have hrb3 : (r3 == 0) = false := by simpa using hr3
    clear hr3
    have hO3' := hO3.hi_le hs3
    have hlW := hR3.lt
    have hzW := hb3.size
    go_wp2_with fail
    refine (termOr_any w.heap.size (p2 + 1) 20 _ (by omega) (by omega) (by omega) hR3).mono ?_
    rintro e w4 ⟨x, a, p4, rfl, hO4, _, hla, hDa, hR4, hp4, hG4⟩
    have HDa := hide hDa
    clear hDa
    obtain ⟨xa, xc, rfl, _⟩ := hO4.shape
    have hs4 := hG4.size
    have hb4 : Below w.heap.size w w4 := hb3.grown hG4 (by omega) (fun k e => by cases e; exact Nat.le_refl _)
    have hB4 := hO3'.grown (Nat.le_refl _) hG4 (fun k e => .inl (by cases e; omega))
    clear hG4
    go_wp2_with fail
    refine (pick_any w.heap.size p4 3 _ (by omega) (by omega) (by omega) hR4).mono ?_
    rintro e w5 ⟨r5, rfl, hr50, hr51, hR5, hG5⟩
    have hs5 := hG5.size
    have hb5 : Below w.heap.size w w5 := hb4.grown hG5 (by omega) (fun k e => by cases e; exact Nat.le_refl _)
    have hB5 := hB4.grown (by first | omega | (simp at hs4 ⊢; omega)) hG5 (fun k e => .inl (by cases e; omega))
    have hO5 := own_apart hO4 hG5 (fun k e => .inl (by cases e; omega))
    clear hG5 hO4 hB4 hb4
    by_cases hr5 : r5 > 0
    · have hrb5 : decide (r5 > 0) = true := by simpa using hr5
      have HN := hide (near_any w.heap.size (p4 + 1) _ xa xc a w5 (by omega) hR5 hlW (by omega) hO5 hla (unhide HDa))
      clear hr5
      go_wp2_with fail
      refine (unhide HN).mono ?_
      rintro e w6 ⟨y, b, p6, rfl, hO6, hlb, hDb, hR6, hp6, hG6⟩
      have hs6 := hG6.size
      have hO56 : OwnC w6 _ (.slice xa a.length xc) a := own_apart hO5 hG6 (fun k e => .inl (by cases e; omega))
      have HFIN : Hid (DrewU w v s (.slice xa a.length xc) a y b w6) := ⟨((hB5.grown (by first | omega | (simp at hs4 ⊢; omega)) hG6 (fun k e => .inl (by cases e; omega))).hi_le (by first | omega | (simp at hs4 ⊢; omega))).lo_le (by omega), unhide HF2, hO56.base (by omega), hla, unhide HDa, hO6.base (by omega), hlb, hDb, hb5.grown hG6 (by omega) (fun k e => by cases e; exact Nat.le_refl _)⟩
      clear hO6 hDb hR6 hG6 hO5 hB5 HN
      go_wp2
      go_ret3
      exact ⟨_, _, _, _, _, _, rfl, unhide HFIN⟩
    · have hrb5 : decide (r5 > 0) = false := by simpa using hr5
      clear hr5
      go_wp2_with fail
      refine (termOr_any w.heap.size (p4 + 1) 20 _ (by omega) (by omega) (by omega) hR5).mono ?_
      rintro e w6 ⟨y, b, p6, rfl, hO6, _, hlb, hDb, hR6, hp6, hG6⟩
      have hs6 := hG6.size
      have hO56 : OwnC w6 _ (.slice xa a.length xc) a := own_apart hO5 hG6 (fun k e => .inl (by cases e; omega))
      have HFIN : Hid (DrewU w v s (.slice xa a.length xc) a y b w6) := ⟨((hB5.grown (by first | omega | (simp at hs4 ⊢; omega)) hG6 (fun k e => .inl (by cases e; omega))).hi_le (by first | omega | (simp at hs4 ⊢; omega))).lo_le (by omega), unhide HF2, hO56.base (by omega), hla, unhide HDa, hO6.base (by omega), hlb, hDb, hb5.grown hG6 (by omega) (fun k e => by cases e; exact Nat.le_refl _)⟩
      clear hO6 hDb hR6 hG6 hO5 hB5
      go_wp2
      go_ret3
      exact ⟨_, _, _, _, _, _, rfl, unhide HFIN⟩
end Go.Proofs.Ytddhjafpacgdaaa

/- What is few stays few where two terms are made the same. -/
namespace Go.Proofs.Ytddhjafpacgdaaa
set_option linter.unusedVariables false
set_option linter.unusedSimpArgs false

theorem um_few {k : Nat} {s : List B} {a b : List C} {o : List B} {h : Int} (hF : FewK k s) (ha : a.length ≤ 41) (hb : b.length ≤ 41) (hM : UM s a b o h) : FewK (k + 2) o := by
  by_cases e : h = 1
  · subst e
    have d := um_done hM
    have hg := subOk_good d.oko
    obtain ⟨V, hV, hQ⟩ := hF.vars
    obtain ⟨n, hU⟩ := d.un
    have hv := hU.vars (Q := (· ∈ V ++ (varsOf a ++ varsOf b))) (hQ.mono (fun v hv => List.mem_append.2 (.inl hv))) (fun p hp u hu => by
      simp at hp
      subst hp
      rcases hu with hu | hu
      · exact List.mem_append.2 (.inr (List.mem_append.2 (.inl (mem_varsOf hu))))
      · exact List.mem_append.2 (.inr (List.mem_append.2 (.inr (mem_varsOf hu)))))
    have hl : (V ++ (varsOf a ++ varsOf b)).length ≤ 10001 + 50 * (k + 2) := by simp [varsOf]; omega
    have hn := nodup_len (l := o.map (·.v)) (V := V ++ (varsOf a ++ varsOf b)) hg.ok.once (fun x hx => by
      obtain ⟨y, hy, rfl⟩ := List.mem_map.1 hx
      exact (hv y hy).1)
    rw [List.length_map] at hn
    exact ⟨by omega, fun x hx => Nat.le_trans (hg.short x hx) (by omega), hg.fit, _, hl, hv⟩
  · have := (um_codes hM).1.resolve_left e
    subst this
    exact FewK.nil _
theorem FewK.len6 {k : Nat} {s : List B} (h : FewK k s) (hk : k ≤ 200) : s.length ≤ 1048576 := by have := h.len; omega
theorem FewK.lenm {k : Nat} {s : List B} (h : FewK k s) (hk : k ≤ 200) : s.length ≤ maxLen := by have := h.len; unfold maxLen; omega
theorem FewK.shortm {k : Nat} {s : List B} (h : FewK k s) : ∀ y ∈ s, y.t.length ≤ maxLen := fun y hy => by have := h.short y hy; unfold maxLen; omega
end Go.Proofs.Ytddhjafpacgdaaa
