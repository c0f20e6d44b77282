import Derived.Test.YtjjpmlcaapedhaaDoorQD5
import Derived.Test.YtjjpmlcaapedhaaDoorQPlainMemOpenOpen2
import Derived.Test.YtjjpmlcaapedhaaDoorQSB1Plain2YB3
import Derived.Test.YtjjpmlcaapedhaaDoorQW6W7W18T5
import Derived.Test.YtjjpmlcaapedhaaDoorQTX1TX4
import Derived.Test.YtjjpmlcaapedhaaDoorQW10W13
/- What is drawn, whole: l20TermOr, l20Open, and the draws of chapter 1 that are places alone. -/
namespace Go.Proofs.YtjjpmlcaapedhaaDoor
open Go.RowKit
set_option linter.unusedVariables false
set_option linter.unusedSimpArgs false

theorem drew_wide {w w' : World} {R p lo hi d lo' hi' d' : Nat} {e : Ending} (h : Drew Ds w R p lo hi d e w') (h1 : lo' ≤ lo) (h2 : hi ≤ hi') (h3 : d ≤ d') : Drew Dc w R p lo' hi' d' e w' := by
  obtain ⟨v, t, p', he, a1, a2, a3, a4, a5, a6, a7⟩ := h
  exact ⟨v, t, p', he, a1, by omega, by omega, fun c hc => (a4 c hc).dc, a5, by omega, a7⟩

/-- Of places that were drawn: what the walks ask. -/
theorem dc_fit {t : List C} (h : ∀ c ∈ t, Dc c) : Fit t ∧ WfC t := by
  constructor
  · intro c hc
    obtain ⟨_, _, _, _, h5⟩ := h c hc
    unfold maxLen; omega
  · intro c hc
    obtain ⟨h1, h2, h3, h4, _⟩ := h c hc
    exact ⟨WalkArith.wf_i64 (by omega), WalkArith.wf_i64 (by omega)⟩

set_option maxHeartbeats 1000000 in
theorem termOr_any (R p : Nat) (n : Int) (w : World) (hn : 1 ≤ n) (hn2 : n ≤ 1000000) (hp : p ≤ 999980000) (h : Rd w R p) :
    Calls Tryd.prog 18 #[.pointer (some ⟨R, 0, none⟩), .int .i64 n] w fun e w' => Drew Dc w R p 0 41 300 e w' := by
  have hlt := h.lt
  go_enter Tryd.func18, Tryd.ntmps18
  go_wp2_with fail
  refine (pick_any R p 4 _ (by omega) (by omega) (by omega) (h.alloc _)).mono ?_
  rintro e w1 ⟨r, rfl, hr0, hr1, hR1, hG1⟩
  obtain ⟨j, rfl⟩ := Int.eq_ofNat_of_zero_le hr0
  have hq := pick_lit (xs := [3, 8, 20, 40]) hlt hG1 (j := j) (by simp; omega)
  have hx : ∀ x ∈ ([3, 8, 20, 40] : List Int), 1 ≤ x ∧ x ≤ 40 := by decide
  have hx' := hx _ (List.getElem_mem (l := [3, 8, 20, 40]) (n := j) (by simp; omega))
  obtain ⟨x, hxe⟩ : ∃ x : Int, x = ([3, 8, 20, 40] : List Int)[j]'(by simp; omega) := ⟨_, rfl⟩
  rw [← hxe] at hq hx'
  clear hxe hx
  have hg1 := grown_first hG1
  clear hG1
  go_wp2_with fail
  refine (term_any R (p + 1) x 4 _ hx'.1 hx'.2 (by omega) (by omega) (by omega) hR1).mono ?_
  rintro e w2 ⟨v, t, p2, rfl, hO2, hl1, hl2, hDs, hR2, hp2, hG2⟩
  have hg2 := grown_trans hg1 hG2
  obtain ⟨g, cp, rfl, hgb, hgl, hcp⟩ := own_some hO2 hl1
  have HDs := hide hDs
  clear hDs hG2
  go_wp2_with fail
  refine (odd_any R p2 n _ hn hn2 (by omega) hR2).mono ?_
  rintro e w3 ⟨b, rfl, hR3, hG3⟩
  have hg3 := grown_trans hg2 hG3
  have hO3 : OwnC w3 w1.heap.size (.slice (some ⟨g, 0, none⟩) t.length cp) t := own_apart hO2 hG3 (fun j e => .inl (by cases e; exact Nat.lt_of_lt_of_le hlt hg1.size))
  have hO3' := hO3.base hg1.size
  cases b with
  | false =>
    go_wp2
    go_ret
    exact drew_mk hO3' (Nat.zero_le _) (by omega) (fun c hc => (unhide HDs c hc).dc) hR3 (by omega) hg3
  | true =>
    go_wp2_with fail
    refine (spoil_any R (p2 + 1) g 0 cp t _ hl1 hl2 (unhide HDs) (owns_at hO3 rfl) (by omega) hR3).mono ?_
    rintro e w4 ⟨v, u, p4, rfl, hO4, hm1, hm2, hDc, hR4, hp4, hG4⟩
    have hg4 := grown_trans hg3 hG4
    have hO4' := hO4.base hg3.size
    have FIN := hide (drew_mk (d := 300) (p := p) hO4' (Nat.zero_le _) hm2 hDc hR4 (by omega) hg4)
    clear hDc
    go_wp2
    go_ret
    exact unhide FIN

theorem rd_new {w : World} {ao : Option Addr} {len cap : Nat} {z : Nat → Int} (hl : len ≤ 2000) (hz : ∀ i, 0 ≤ z i ∧ z i ≤ 255) (hB : len = 0 ∨ ∃ b off, ao = some ⟨b, off, none⟩ ∧ ∀ i, i < len → w.cell? ⟨b, off + i, none⟩ = some (.int .u8 (z i))) :
    Rd (w.alloc (.cells #[.slice ao len cap, .int .i64 0] 63)) w.heap.size 0 := by
  refine ⟨ao, len, cap, z, heap_alloc_new w _, hl, hz, ?_⟩
  rcases hB with h | ⟨b, off, e, hc⟩
  · exact .inl h
  · by_cases h0 : len = 0
    · exact .inl h0
    · have hb : b < w.heap.size := World.block_lt_of_cell? w ⟨b, _, none⟩ (hc 0 (by omega))
      exact .inr ⟨b, off, e, hb, fun i hi => (World.cell?_of_block (a := ⟨b, _, none⟩) (Below.heap_alloc w _ b hb)).trans (hc i hi)⟩

set_option maxHeartbeats 400000 in
theorem open_any (ao : Option Addr) (len cap : Nat) (z : Nat → Int) (w : World) (h : Bin w ao len cap z) :
    Calls Tryd.prog 19 #[.slice ao len cap] w fun e w' => e = .returned (.pointer (some ⟨w.heap.size, 0, none⟩)) ∧ Rd w' w.heap.size 0 ∧ Below w.heap.size w w' := by
  obtain ⟨hc, hm, hz, hB⟩ := h
  unfold maxLen at hm
  have HZ := hide hz
  have HB := hide hB
  clear hz hB
  by_cases h2 : len ≤ 2000
  · have hR := hide (rd_new (cap := cap) h2 (unhide HZ) (unhide HB))
    go_enter Tryd.func19, Tryd.ntmps19
    go_wp2
    go_ret
    exact ⟨rfl, unhide hR, cell_below _ _⟩
  · have h2' : 2000 < len := by omega
    have hsome : ∃ b off, ao = some ⟨b, off, none⟩ ∧ ∀ i, i < len → w.cell? ⟨b, off + i, none⟩ = some (.int .u8 (z i)) := by
      rcases unhide HB with h | h
      · omega
      · exact h
    obtain ⟨b, off, rfl, hcell⟩ := hsome
    have hR := hide (rd_new (w := w) (ao := some ⟨b, off, none⟩) (cap := cap) (Nat.le_refl 2000) (unhide HZ) (.inr ⟨b, off, rfl, fun i hi => hcell i (by omega)⟩))
    clear hcell
    have hcp : 2000 ≤ cap := by omega
    go_enter Tryd.func19, Tryd.ntmps19
    go_wp2
    go_ret
    exact ⟨rfl, unhide hR, cell_below _ _⟩

/-- Places that a law draws from bytes. -/
def DrewB (w : World) (e : Ending) (w' : World) : Prop :=
  ∃ v t, e = .returned v ∧ OwnC w' w.heap.size v t ∧ t.length ≤ 41 ∧ (∀ c ∈ t, Dc c) ∧ Below w.heap.size w w'
theorem drewB_mk {w w1 w' : World} {e : Ending} (hb : Below w.heap.size w w1) (hs : w.heap.size < w1.heap.size) (h : Drew Dc w1 w.heap.size 0 0 41 300 e w') : DrewB w e w' := by
  obtain ⟨v, t, p', he, h1, h2, h3, h4, h5, h6, h7⟩ := h
  exact ⟨v, t, he, h1.base hb.size, h3, h4, hb.grown h7 hb.size (fun k e => by cases e; exact Nat.le_refl _)⟩

end Go.Proofs.YtjjpmlcaapedhaaDoor

/- caOk; the walk of the law FnTrmWhole. -/
namespace Go.Proofs.YtjjpmlcaapedhaaDoor
open Go.RowKit
set_option linter.unusedVariables false
set_option linter.unusedSimpArgs false

theorem fit_one : Fit [⟨2, 1, ByteArray.mk #[]⟩] := fun c hc => by simp at hc; subst hc; decide

set_option maxHeartbeats 400000 in
theorem caOk_any (w : World) : Calls Tryd.prog 14 #[] w fun e w' => e = .returned (.bool true) ∧ Below w.heap.size w w' := by
  have hA : At (w.alloc (.cells #[.int .i64 2, .int .i64 1, .string (ByteArray.mk #[])] 49)) w.heap.size 0 [⟨2, 1, ByteArray.mk #[]⟩] := fun i hi => by
    have h0 : i = 0 := by simp at hi; omega
    subst h0
    simp [go_sem]
  have h1 := TrmOk_some w.heap.size 0 1 [⟨2, 1, ByteArray.mk #[]⟩] _ (by simp [maxLen]) hA fit_one
  rw [trm_one] at h1
  have H := hide h1
  clear h1 hA
  go_enter Tryd.func14, Tryd.ntmps14
  go_wp2_with fail
  refine (unhide H).mono ?_
  rintro e w1 ⟨rfl, hb1⟩
  go_wp2
  go_ret
  exact ⟨rfl, bstep (cell_below _ _) hb1⟩

end Go.Proofs.YtjjpmlcaapedhaaDoor

/- The specification: decimals, words. -/
namespace Go.Proofs.YtjjpmlcaapedhaaDoor
open Go.RowKit
set_option linter.unusedVariables false
set_option linter.unusedSimpArgs false

set_option maxRecDepth 100000 in
set_option maxHeartbeats 1000000 in
theorem l1Plain_any (n : Nat) (w : World) (hn : n < 100000) :
    Calls Tryd.prog 47 #[.int .i64 n] w fun e w' => e = .returned (.string (decB n)) ∧ Below w.heap.size w w' := by
  go_enter Tryd.func47, Tryd.ntmps47
  go_wp2
  go_loopw [0, 3] (fun nv ov wr => ∃ (m : Nat) (acc : ByteArray), nv = .int .i64 m ∧ ov = .string acc ∧ decB n = decB m ++ acc ∧ m ≤ n ∧ Below w.heap.size w wr) (fun nv _ _ => (intOf nv).toNat)
  case atStart => exact ⟨n, ByteArray.empty, rfl, rfl, by simp, Nat.le_refl _, Below.refl _ _⟩
  case round =>
    obtain ⟨m, acc, rfl, rfl, hd, hm, hB⟩ := hrel
    by_cases h9 : 9 < m
    · have HB := hide (bstep hB (cell_below wr (.cells #[.int .u8 (48 + (m : Int) % 10)] 5)))
      have HD := hide (show decB n = decB (m / 10) ++ (⟨#[UInt8.ofNat (48 + m % 10)]⟩ ++ acc) from by rw [hd, decB_step (by omega), ByteArray.append_assoc])
      have hc := conv1 wr (48 + (m : Int) % 10)
      rw [show (48 + (m : Int) % 10).toNat = 48 + m % 10 by omega] at hc
      have hsz := congrArg ByteArray.size hd
      rw [ByteArray.size_append] at hsz
      have hd5 := decB_size 4 n (by rw [show 10 ^ (4 + 1) = 100000 from rfl]; omega)
      obtain ⟨d, hdd⟩ : ∃ d : ByteArray, d = ⟨#[UInt8.ofNat (48 + m % 10)]⟩ := ⟨_, rfl⟩
      have hd1 : d.size = 1 := by rw [hdd]; rfl
      have hcat : ¬ (d.size + acc.size > 9223372036854775807) := by omega
      rw [← hdd] at hc HD
      clear hd hB hsz hd5 hdd hd1
      go_wp2
      go_roundw
      case rel => exact ⟨m / 10, d ++ acc, by go_num, rfl, unhide HD, by omega, unhide HB⟩
      case measure => simp [intOf]; omega
    · have HB := hide (bstep hB (cell_below wr (.cells #[.int .u8 (48 + (m : Int))] 5)))
      have HD := hide (show decB n = ⟨#[UInt8.ofNat (48 + m)]⟩ ++ acc from by rw [hd, decB_small (by omega)])
      have hc := conv1 wr (48 + (m : Int))
      rw [show (48 + (m : Int)).toNat = 48 + m by omega] at hc
      have hm9 : (m : Int) ≤ 9 := by omega
      have hsz := congrArg ByteArray.size hd
      rw [ByteArray.size_append] at hsz
      have hd5 := decB_size 4 n (by rw [show 10 ^ (4 + 1) = 100000 from rfl]; omega)
      obtain ⟨d, hdd⟩ : ∃ d : ByteArray, d = ⟨#[UInt8.ofNat (48 + m)]⟩ := ⟨_, rfl⟩
      have hd1 : d.size = 1 := by rw [hdd]; rfl
      have hcat : ¬ (d.size + acc.size > 9223372036854775807) := by omega
      rw [← hdd] at hc HD
      clear hd hB hsz hd5 hdd hd1
      go_wp2
      go_ret
      exact ⟨by rw [unhide HD]; rfl, unhide HB⟩

set_option maxRecDepth 100000 in
set_option maxHeartbeats 1000000 in
theorem l1Word_any (c : C) (w : World) (h : okC c = true) :
    Calls Tryd.prog 27 #[.agg #[.int .i64 c.k, .int .i64 c.n, .string c.s]] w fun e w' => e = .returned (.string (wordB c)) ∧ Below w.heap.size w w' := by
  obtain ⟨k, n, s⟩ := c
  obtain ⟨hk, h1, h2, _⟩ := okC_parts h
  simp only at hk h1 h2 ⊢
  have hv : k = 1 → 0 ≤ n := by
    rintro rfl
    simp [okC] at h
    exact h.1.1
  clear h
  have hX := heap_alloc_new w (.cells #[.int .i64 k, .int .i64 n, .string s] 49)
  obtain ⟨W, hW⟩ : ∃ W, W = w.alloc (.cells #[.int .i64 k, .int .i64 n, .string s] 49) := ⟨_, rfl⟩
  have hB0 : Below w.heap.size w W := by rw [hW]; exact cell_below _ _
  rw [← hW] at hX
  have c0 : W.cell? ⟨w.heap.size, 0, none⟩ = some (.int .i64 k) := by simp only [World.cell?]; rw [hX]; rfl
  have c1 : W.cell? ⟨w.heap.size, 1, none⟩ = some (.int .i64 n) := by simp only [World.cell?]; rw [hX]; rfl
  have c2 : W.cell? ⟨w.heap.size, 2, none⟩ = some (.string s) := by simp only [World.cell?]; rw [hX]; rfl
  clear hX
  have hv := hv
  rcases hk with rfl | rfl | rfl
  · have e1 : wordB ⟨1, n, s⟩ = xB ++ numB n := rfl
    have h0 : 0 ≤ n := hv rfl
    obtain ⟨m, rfl⟩ := Int.eq_ofNat_of_zero_le h0
    have HP := hide (l1Plain_any m W (by omega))
    have HE := hide (show wordB ⟨1, (m : Int), s⟩ = xB ++ decB m from by rw [e1, numB_pos (by omega)]; rfl)
    have hd5 := decB_size 4 m (by rw [show 10 ^ (4 + 1) = 100000 from rfl]; omega)
    obtain ⟨d, hdd⟩ : ∃ d, d = decB m := ⟨_, rfl⟩
    rw [← hdd] at HP HE hd5
    have hcat : ¬ (({ data := #[88] } : ByteArray).size + d.size > 9223372036854775807) := by have : ({ data := #[88] } : ByteArray).size = 1 := rfl; omega
    clear e1 c0 c1 c2 hd5 hdd
    subst hW
    go_enter Tryd.func27, Tryd.ntmps27
    go_wp2_with fail
    refine (unhide HP).mono ?_
    rintro e w1 ⟨rfl, hb1⟩
    have hB1 := bstep hB0 hb1
    go_wp2
    go_ret
    exact ⟨by rw [unhide HE]; rfl, hB1⟩
  · have e1 : wordB ⟨2, n, s⟩ = numB n := rfl
    by_cases h0 : n < 0
    · have HP := hide (l1Plain_any (-n).toNat W (by omega))
      rw [show (((-n).toNat : Nat) : Int) = -n by omega] at HP
      have HE := hide (show wordB ⟨2, n, s⟩ = mnB ++ decB (-n).toNat from by rw [e1, numB_neg h0])
      have hd5 := decB_size 4 (-n).toNat (by rw [show 10 ^ (4 + 1) = 100000 from rfl]; omega)
      obtain ⟨d, hdd⟩ : ∃ d, d = decB (-n).toNat := ⟨_, rfl⟩
      rw [← hdd] at HP HE hd5
      have hcat : ¬ (({ data := #[45] } : ByteArray).size + d.size > 9223372036854775807) := by have : ({ data := #[45] } : ByteArray).size = 1 := rfl; omega
      clear e1 c0 c1 c2 hd5 hdd
      subst hW
      go_enter Tryd.func27, Tryd.ntmps27
      go_wp2_with fail
      refine (unhide HP).mono ?_
      rintro e w1 ⟨rfl, hb1⟩
      have hB1 := bstep hB0 hb1
      go_wp2
      go_ret
      exact ⟨by rw [unhide HE]; rfl, hB1⟩
    · obtain ⟨m, rfl⟩ := Int.eq_ofNat_of_zero_le (show 0 ≤ n by omega)
      have HP := hide (l1Plain_any m W (by omega))
      have HE := hide (show wordB ⟨2, (m : Int), s⟩ = decB m from by rw [e1, numB_pos (by omega)]; rfl)
      clear e1 c0 c1 c2
      subst hW
      go_enter Tryd.func27, Tryd.ntmps27
      go_wp2_with fail
      refine (unhide HP).mono ?_
      rintro e w1 ⟨rfl, hb1⟩
      have hB1 := bstep hB0 hb1
      go_wp2
      go_ret
      exact ⟨by rw [unhide HE]; rfl, hB1⟩
  · have HE := hide (show wordB ⟨3, n, s⟩ = s from rfl)
    clear c0 c1 c2
    subst hW
    go_enter Tryd.func27, Tryd.ntmps27
    go_wp2
    go_ret
    exact ⟨by rw [unhide HE]; rfl, hB0⟩
end Go.Proofs.YtjjpmlcaapedhaaDoor
