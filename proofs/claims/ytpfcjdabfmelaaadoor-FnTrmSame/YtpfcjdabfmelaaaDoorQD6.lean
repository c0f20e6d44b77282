/- What is drawn, whole: l20TermOr, l20Open, and the draws of chapter 1 that are places alone. -/
import Derived.Test.YtpfcjdabfmelaaaDoorQD5
import Derived.Test.YtpfcjdabfmelaaaDoorQMemOpenOpen2
namespace Go.Proofs.YtpfcjdabfmelaaaDoor
open Go.RowKit
set_option linter.unusedVariables false
set_option linter.unusedSimpArgs false

theorem drew_wide {w w' : World} {R p lo hi d lo' hi' d' : Nat} {e : Ending} (h : Drew Ds w R p lo hi d e w') (h1 : lo' ≤ lo) (h2 : hi ≤ hi') (h3 : d ≤ d') : Drew Dc w R p lo' hi' d' e w' := by
  obtain ⟨v, t, p', he, a1, a2, a3, a4, a5, a6, a7⟩ := h
  exact ⟨v, t, p', he, a1, by omega, by omega, fun c hc => (a4 c hc).dc, a5, by omega, a7⟩

/-- Of places that were drawn: what the walks ask. -/
theorem dc_fit {t : List C} (h : ∀ c ∈ t, Dc c) : Fit t ∧ WfC t := by
  constructor
  · intro c hc
    obtain ⟨_, _, _, _, h5⟩ := h c hc
    unfold maxLen; omega
  · intro c hc
    obtain ⟨h1, h2, h3, h4, _⟩ := h c hc
    exact ⟨WalkArith.wf_i64 (by omega), WalkArith.wf_i64 (by omega)⟩

set_option maxHeartbeats 1000000 in
theorem termOr_any (R p : Nat) (n : Int) (w : World) (hn : 1 ≤ n) (hn2 : n ≤ 1000000) (hp : p ≤ 999980000) (h : Rd w R p) :
    Calls Tryd.prog 14 #[.pointer (some ⟨R, 0, none⟩), .int .i64 n] w fun e w' => Drew Dc w R p 0 41 300 e w' := by
  have hlt := h.lt
  go_enter Tryd.func14, Tryd.ntmps14
  go_wp2_with fail
  refine (pick_any R p 4 _ (by omega) (by omega) (by omega) (h.alloc _)).mono ?_
  rintro e w1 ⟨r, rfl, hr0, hr1, hR1, hG1⟩
  obtain ⟨j, rfl⟩ := Int.eq_ofNat_of_zero_le hr0
  have hq := pick_lit (xs := [3, 8, 20, 40]) hlt hG1 (j := j) (by simp; omega)
  have hx : ∀ x ∈ ([3, 8, 20, 40] : List Int), 1 ≤ x ∧ x ≤ 40 := by decide
  have hx' := hx _ (List.getElem_mem (l := [3, 8, 20, 40]) (n := j) (by simp; omega))
  obtain ⟨x, hxe⟩ : ∃ x : Int, x = ([3, 8, 20, 40] : List Int)[j]'(by simp; omega) := ⟨_, rfl⟩
  rw [← hxe] at hq hx'
  clear hxe hx
  have hg1 := grown_first hG1
  clear hG1
  go_wp2_with fail
  refine (term_any R (p + 1) x 4 _ hx'.1 hx'.2 (by omega) (by omega) (by omega) hR1).mono ?_
  rintro e w2 ⟨v, t, p2, rfl, hO2, hl1, hl2, hDs, hR2, hp2, hG2⟩
  have hg2 := grown_trans hg1 hG2
  obtain ⟨g, cp, rfl, hgb, hgl, hcp⟩ := own_some hO2 hl1
  have HDs := hide hDs
  clear hDs hG2
  go_wp2_with fail
  refine (odd_any R p2 n _ hn hn2 (by omega) hR2).mono ?_
  rintro e w3 ⟨b, rfl, hR3, hG3⟩
  have hg3 := grown_trans hg2 hG3
  have hO3 : OwnC w3 w1.heap.size (.slice (some ⟨g, 0, none⟩) t.length cp) t := own_apart hO2 hG3 (fun j e => .inl (by cases e; exact Nat.lt_of_lt_of_le hlt hg1.size))
  have hO3' := hO3.base hg1.size
  cases b with
  | false =>
    go_wp2
    go_ret
    exact drew_mk hO3' (Nat.zero_le _) (by omega) (fun c hc => (unhide HDs c hc).dc) hR3 (by omega) hg3
  | true =>
    go_wp2_with fail
    refine (spoil_any R (p2 + 1) g 0 cp t _ hl1 hl2 (unhide HDs) (owns_at hO3 rfl) (by omega) hR3).mono ?_
    rintro e w4 ⟨v, u, p4, rfl, hO4, hm1, hm2, hDc, hR4, hp4, hG4⟩
    have hg4 := grown_trans hg3 hG4
    have hO4' := hO4.base hg3.size
    have FIN := hide (drew_mk (d := 300) (p := p) hO4' (Nat.zero_le _) hm2 hDc hR4 (by omega) hg4)
    clear hDc
    go_wp2
    go_ret
    exact unhide FIN

theorem rd_new {w : World} {ao : Option Addr} {len cap : Nat} {z : Nat → Int} (hl : len ≤ 2000) (hz : ∀ i, 0 ≤ z i ∧ z i ≤ 255) (hB : len = 0 ∨ ∃ b off, ao = some ⟨b, off, none⟩ ∧ ∀ i, i < len → w.cell? ⟨b, off + i, none⟩ = some (.int .u8 (z i))) :
    Rd (w.alloc (.cells #[.slice ao len cap, .int .i64 0] 46)) w.heap.size 0 := by
  refine ⟨ao, len, cap, z, heap_alloc_new w _, hl, hz, ?_⟩
  rcases hB with h | ⟨b, off, e, hc⟩
  · exact .inl h
  · by_cases h0 : len = 0
    · exact .inl h0
    · have hb : b < w.heap.size := World.block_lt_of_cell? w ⟨b, _, none⟩ (hc 0 (by omega))
      exact .inr ⟨b, off, e, hb, fun i hi => (World.cell?_of_block (a := ⟨b, _, none⟩) (Below.heap_alloc w _ b hb)).trans (hc i hi)⟩

set_option maxHeartbeats 400000 in
theorem open_any (ao : Option Addr) (len cap : Nat) (z : Nat → Int) (w : World) (h : Bin w ao len cap z) :
    Calls Tryd.prog 13 #[.slice ao len cap] w fun e w' => e = .returned (.pointer (some ⟨w.heap.size, 0, none⟩)) ∧ Rd w' w.heap.size 0 ∧ Below w.heap.size w w' := by
  obtain ⟨hc, hm, hz, hB⟩ := h
  unfold maxLen at hm
  have HZ := hide hz
  have HB := hide hB
  clear hz hB
  by_cases h2 : len ≤ 2000
  · have hR := hide (rd_new (cap := cap) h2 (unhide HZ) (unhide HB))
    go_enter Tryd.func13, Tryd.ntmps13
    go_wp2
    go_ret
    exact ⟨rfl, unhide hR, cell_below _ _⟩
  · have h2' : 2000 < len := by omega
    have hsome : ∃ b off, ao = some ⟨b, off, none⟩ ∧ ∀ i, i < len → w.cell? ⟨b, off + i, none⟩ = some (.int .u8 (z i)) := by
      rcases unhide HB with h | h
      · omega
      · exact h
    obtain ⟨b, off, rfl, hcell⟩ := hsome
    have hR := hide (rd_new (w := w) (ao := some ⟨b, off, none⟩) (cap := cap) (Nat.le_refl 2000) (unhide HZ) (.inr ⟨b, off, rfl, fun i hi => hcell i (by omega)⟩))
    clear hcell
    have hcp : 2000 ≤ cap := by omega
    go_enter Tryd.func13, Tryd.ntmps13
    go_wp2
    go_ret
    exact ⟨rfl, unhide hR, cell_below _ _⟩

/-- Places that a law draws from bytes. -/
def DrewB (w : World) (e : Ending) (w' : World) : Prop :=
  ∃ v t, e = .returned v ∧ OwnC w' w.heap.size v t ∧ t.length ≤ 41 ∧ (∀ c ∈ t, Dc c) ∧ Below w.heap.size w w'
theorem drewB_mk {w w1 w' : World} {e : Ending} (hb : Below w.heap.size w w1) (hs : w.heap.size < w1.heap.size) (h : Drew Dc w1 w.heap.size 0 0 41 300 e w') : DrewB w e w' := by
  obtain ⟨v, t, p', he, h1, h2, h3, h4, h5, h6, h7⟩ := h
  exact ⟨v, t, he, h1.base hb.size, h3, h4, hb.grown h7 hb.size (fun k e => by cases e; exact Nat.le_refl _)⟩

end Go.Proofs.YtpfcjdabfmelaaaDoor
