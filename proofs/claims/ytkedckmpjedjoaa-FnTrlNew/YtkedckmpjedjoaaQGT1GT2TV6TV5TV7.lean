import Derived.Test.YtkedckmpjedjoaaQSH2T8T9T10GD1L1
import Derived.Test.YtkedckmpjedjoaaQTX5TX6TX7RX1TX8SX1RR1SX2SX3RR2RR3RR4RR6RR7SX4SX5
import Derived.Test.YtkedckmpjedjoaaQW15W16W2
import Derived.Test.YtkedckmpjedjoaaQOpen2D1D2D3D4D5D6PX1YMYW1TXSTXRYB1YB2YB3RR5
import Derived.Test.YtkedckmpjedjoaaQTV1TV2TV3TV4
import Derived.Test.YtkedckmpjedjoaaQTN1
/- What is asked, as the draws ask it: a question out of eighteen, or a call that was drawn. -/
namespace Go.Proofs.Ytkedckmpjedjoaa
open Go.RowKit
set_option linter.unusedVariables false
set_option linter.unusedSimpArgs false

def eighteen : List ByteArray := [⟨#[110, 97, 116, 40, 88, 48, 41]⟩, ⟨#[97, 112, 112, 40, 88, 48, 44, 88, 49, 44, 99, 40, 97, 44, 99, 40, 98, 44, 110, 105, 108, 41, 41, 41]⟩, ⟨#[109, 101, 109, 40, 88, 48, 44, 99, 40, 97, 44, 99, 40, 98, 44, 110, 105, 108, 41, 41, 41]⟩, ⟨#[101, 40, 88, 48, 44, 88, 49, 41]⟩, ⟨#[112, 40, 97, 44, 88, 48, 41]⟩, ⟨#[109, 97, 120, 40, 49, 44, 50, 44, 88, 48, 41]⟩, ⟨#[108, 101, 110, 40, 99, 40, 97, 44, 99, 40, 98, 44, 110, 105, 108, 41, 41, 44, 88, 48, 41]⟩, ⟨#[111, 40, 88, 48, 41]⟩, ⟨#[98, 97, 100, 40, 88, 48, 41]⟩, ⟨#[98, 105, 103, 40, 97, 41]⟩, ⟨#[113, 40, 88, 48, 41]⟩, ⟨#[114, 40, 88, 48, 41]⟩, ⟨#[108, 40, 97, 41]⟩, ⟨#[110, 111, 40, 88, 48, 41]⟩, ⟨#[97, 112, 112, 40, 99, 40, 97, 44, 110, 105, 108, 41, 44, 88, 48, 44, 88, 49, 41]⟩, ⟨#[112, 40, 88, 48, 44, 88, 49, 41]⟩, ⟨#[109, 97, 120, 40, 50, 44, 49, 44, 88, 48, 41]⟩, ⟨#[98, 97, 100, 40, 48, 41]⟩]
theorem eighteen_len : eighteen.length = 18 := rfl
theorem eighteen_size : ∀ x ∈ eighteen, x.size ≤ 30 := by decide
theorem l20Questions_any (w : World) : Calls Try.prog 163 #[] w fun e w' => e = .returned (.slice (some ⟨w.heap.size, 0, none⟩) 18 18) ∧ (∀ i, (h : i < 18) → w'.cell? ⟨w.heap.size, i, none⟩ = some (.string (eighteen[i]'(by rw [eighteen_len]; exact h)))) ∧ Below w.heap.size w w' := by
  have hA : ∀ i, (h : i < 18) → (w.alloc (.cells (eighteen.map Value.string).toArray 9)).cell? ⟨w.heap.size, i, none⟩ = some (.string (eighteen[i]'(by rw [eighteen_len]; exact h))) := fun i h => lit_strs w eighteen 9 i (by rw [eighteen_len]; exact h)
  have HA := hide (And.intro hA (cell_below w (.cells (eighteen.map Value.string).toArray 9)))
  clear hA
  go_enter Try.func163, Try.ntmps163
  go_wp2
  go_ret
  exact ⟨rfl, (unhide HA).1, (unhide HA).2⟩

theorem rd_dc (l : List UInt8) : ((rdX l).getD []).length ≤ 41 ∧ ∀ c ∈ (rdX l).getD [], Dc c := by
  cases h : rdX l with
  | none => exact ⟨by simp, fun c hc => by simp at hc⟩
  | some t =>
    have ht := (trm_iff t).1 (rdX_back h).1
    refine ⟨by have := ht.2.1; simp; omega, fun c hc => ?_⟩
    have := okC_parts (ht.2.2.1 c hc)
    exact ⟨by omega, by omega, by omega, by omega, by omega⟩
theorem placeV_le : ∀ (z : List Int) (x : Int), -1 ≤ placeV z x ∧ placeV z x ≤ z.length
  | [], x => by simp [placeV]
  | a :: r, x => by
      have := placeV_le r x
      unfold placeV
      split
      · simp; omega
      · split
        · simp; omega
        · simp; omega
theorem canon_dc {t : List C} (h : ∀ c ∈ t, Dc c) (hl : t.length ≤ 100000) : ∀ c ∈ canonOf t, Dc c := by
  intro c hc
  unfold canonOf at hc
  obtain ⟨d, hd, rfl⟩ := List.mem_map.1 hc
  obtain ⟨h1, h2, h3, h4, h5⟩ := h d hd
  by_cases hk : d.k = 1
  · rw [canonC_var hk]
    have := placeV_le (freeOf t) d.n
    have hf := freeOf_len t
    exact ⟨h1, h2, by simp only; omega, by simp only; omega, h5⟩
  · rw [canonC_other hk]
    exact ⟨h1, h2, h3, h4, h5⟩

set_option maxRecDepth 100000 in
set_option maxHeartbeats 4000000 in
theorem l20Top_any (R p : Nat) (w : World) (hp : p ≤ 999970000) (h : Rd w R p) :
    Calls Try.prog 126 #[.pointer (some ⟨R, 0, none⟩)] w fun e w' => Drew Dc w R p 0 41 600 e w' := by
  have hlt := h.lt
  go_enter Try.func126, Try.ntmps126
  go_wp2_with fail
  refine (pick_any R p 5 _ (by omega) (by omega) (by omega) h).mono ?_
  rintro e w1 ⟨r, rfl, h0, h1, hR1, hG1⟩
  by_cases hr : r = 0
  · subst hr
    have HH := hide (head_any R (p + 1) w1 (by omega) hR1)
    clear hR1
    go_wp2_with fail
    refine (unhide HH).mono ?_
    rintro e w2 ⟨v, t, p2, rfl, hO, hl0, hl, hD, hR2, hp2, hG2⟩
    clear HH
    obtain ⟨ao, cap, rfl, hRow⟩ := hO.shape
    have HC := hide (specTrmCanon_any ao cap t w2 (by omega) hRow)
    have hG := grown_trans hG1 hG2
    have hDC := canon_dc hD (by omega)
    have hcl := canonOf_length t
    have hs1 := hG.size
    have HF := hide (And.intro hR2 (And.intro hG (And.intro hDC hcl)))
    clear hO hRow hG1 hG2 hD hDC hcl hG
    go_wp2_with fail
    refine (unhide HC).mono ?_
    rintro e w3 ⟨v3, rfl, hO3, hb3⟩
    have hO3' := OwnC.base hO3 hs1
    obtain ⟨hR2', hG, hDC, hcl⟩ := unhide HF
    have FIN := hide (drew_mk hO3' (Nat.zero_le _) (by rw [hcl]; exact hl) hDC (hR2'.keep (fun k hk => hb3.block k (by have := hR2'.lt; omega))) (show p2 ≤ p + 600 by omega) (grown_trans hG (grown_below hb3)))
    clear hO3 hO3' HC HF hb3
    go_wp2
    go_ret
    exact unhide FIN
  · have hrb : (r == 0) = false := beq_eq_false_iff_ne.2 hr
    have HQ := hide (l20Questions_any w1)
    go_wp2_with fail
    refine (unhide HQ).mono ?_
    rintro e w2 ⟨rfl, hc, hb2⟩
    clear HQ
    have hR2 : Rd w2 R (p + 1) := hR1.keep (fun k hk => hb2.block k (by have := hR1.lt; omega))
    have hG2 := grown_trans hG1 (grown_below (row := some R) hb2)
    have hqR : w1.heap.size ≠ R := by have := hR1.lt; omega
    have hRq : R < w1.heap.size := hR1.lt
    clear hR1 hG1 hb2
    have HP := hide (pick_any R (p + 1) 18 w2 (by omega) (by omega) (by omega) hR2)
    go_wp2_with fail
    refine (unhide HP).mono ?_
    rintro e w3 ⟨x, rfl, x0, x1, hR3, hG3⟩
    clear HP hR2
    have hc3 : ∀ i, (h : i < 18) → w3.cell? ⟨w1.heap.size, i, none⟩ = some (.string (eighteen[i]'(by rw [eighteen_len]; exact h))) := fun i hi => hG3.cell (hc i hi) (by simp; omega)
    have HP := hide (pick_any R (p + 1 + 1) 6 (w3.alloc (.cells #[.int .i64 x, .int .i64 10, .int .i64 4, .int .i64 2, .int .i64 15, .int .i64 3] 3)) (by omega) (by omega) (by omega) (hR3.alloc _))
    have hR3l := hR3.lt
    have hG4 := grown_trans hG2 hG3
    clear hc hR3 hG2 hG3
    go_wp2_with fail
    refine (unhide HP).mono ?_
    rintro e w4 ⟨y, rfl, y0, y1, hR4, hG5⟩
    obtain ⟨j, rfl⟩ := Int.eq_ofNat_of_zero_le y0
    have hxs : ∀ z ∈ ([x, 10, 4, 2, 15, 3] : List Int), 0 ≤ z ∧ z < 18 := by
      intro z hz
      simp at hz
      omega
    have hzj := hxs _ (List.getElem_mem (l := [x, 10, 4, 2, 15, 3]) (n := j) (by simp; omega))
    have hlit : w4.cell? ⟨w3.heap.size, j, none⟩ = some (.int .i64 (([x, 10, 4, 2, 15, 3] : List Int)[j]'(by simp; omega))) := pick_lit (xs := [x, 10, 4, 2, 15, 3]) hR3l hG5 (by simp; omega)
    obtain ⟨z, hz⟩ : ∃ z : Int, z = ([x, 10, 4, 2, 15, 3] : List Int)[j]'(by simp; omega) := ⟨_, rfl⟩
    rw [← hz] at hlit hzj
    clear hz hxs
    obtain ⟨i, rfl⟩ := Int.eq_ofNat_of_zero_le hzj.1
    have hi18 : i < 18 := by omega
    have hci : w4.cell? ⟨w1.heap.size, i, none⟩ = some (.string (eighteen[i]'(by rw [eighteen_len]; exact hi18))) := by
      have h3 := hc3 i hi18
      have hl3 := World.block_lt_of_cell? w3 ⟨_, _, none⟩ h3
      exact hG5.cell ((World.cell?_of_block (a := ⟨w1.heap.size, i, none⟩) ((cell_below w3 _).block _ hl3)).trans h3) (by simp; omega)
    have hsz := eighteen_size _ (List.getElem_mem (l := eighteen) (n := i) (by rw [eighteen_len]; exact hi18))
    obtain ⟨q, hq⟩ : ∃ q, q = eighteen[i]'(by rw [eighteen_len]; exact hi18) := ⟨_, rfl⟩
    rw [← hq] at hci hsz
    clear hq hc3
    have hG6 := grown_trans hG4 (grown_trans (grown_alloc w3 _ (some R)) hG5)
    have hs4 := hG6.size
    have HT := hide (show Calls Try.prog 164 #[.string q] w4 (ReadOut (bl q) w4) from by
      have := specTrmRead_any (bl q) w4 (by rw [bl_size]; omega)
      rwa [mkS_bl] at this)
    have HF := hide (And.intro hR4 hG6)
    clear hG4 hG5 hR4 hG6 HP
    go_wp2_with fail
    refine (unhide HT).mono ?_
    rintro e w5 ⟨v, rfl, hO, hb5⟩
    obtain ⟨hl41, hDc⟩ := rd_dc (bl q)
    obtain ⟨hR4, hG6⟩ := unhide HF
    have FIN := hide (drew_mk (OwnC.base hO hs4) (Nat.zero_le _) hl41 hDc (hR4.keep (fun k hk => hb5.block k (by have := hR4.lt; omega))) (show p + 1 + 1 + 1 ≤ p + 600 by omega) (grown_trans hG6 (grown_below (row := some R) hb5)))
    clear hO hl41 hDc hR4 hG6 HF HT hb5 hci hlit
    generalize (rdX (bl q)).isSome = bq at *
    go_wp2
    go_ret
    exact unhide FIN
end Go.Proofs.Ytkedckmpjedjoaa

/- A question, or what is none, as the draws have it. -/
namespace Go.Proofs.Ytkedckmpjedjoaa
open Go.RowKit
set_option linter.unusedVariables false
set_option linter.unusedSimpArgs false

def eB : ByteArray := { data := #[101] }
def q0 : List C := []
def q1 : List C := [⟨1, 0, ByteArray.empty⟩]
def q2 : List C := [⟨2, 3, ByteArray.empty⟩]
def q3 : List C := [⟨3, 1, eB⟩, ⟨1, 1, ByteArray.empty⟩]
def q4 : List C := [⟨3, 1, eB⟩]
theorem own_blk {W : World} {b base : Nat} {t : List C} (h : W.heap[b]? = some (.cells (flat t).toArray 98 (0, 0))) (hb : base ≤ b) (hl : t.length ≤ 100) : OwnC W base (.slice (some ⟨b, 0, none⟩) t.length t.length) t := by
  have hf : (flat t).length = t.length * 3 := flat_length t
  refine ⟨hf, .inr ⟨b, t.length, _, rfl, hb, h, Nat.le_refl _, by unfold maxLen; omega, by simp [hf], ?_⟩⟩
  rw [List.take_of_length_le (by simp [hf])]
theorem qs_dc : (∀ c ∈ q0, Dc c) ∧ (∀ c ∈ q1, Dc c) ∧ (∀ c ∈ q2, Dc c) ∧ (∀ c ∈ q3, Dc c) ∧ (∀ c ∈ q4, Dc c) := by
  refine ⟨?_, ?_, ?_, ?_, ?_⟩
  · intro c h; cases h
  · intro c h; simp [q1] at h; subst h; exact ⟨by decide, by decide, by decide, by decide, by decide⟩
  · intro c h; simp [q2] at h; subst h; exact ⟨by decide, by decide, by decide, by decide, by decide⟩
  · intro c h; simp [q3] at h; rcases h with rfl | rfl <;> exact ⟨by decide, by decide, by decide, by decide, by decide⟩
  · intro c h; simp [q4] at h; subst h; exact ⟨by decide, by decide, by decide, by decide, by decide⟩

theorem six_blocks (w1 : World) : ∀ W, W = ((((((w1.alloc (.cells #[] 98)).alloc (.cells #[.int .i64 1, .int .i64 0, .string { data := #[] }] 98)).alloc (.cells #[.int .i64 2, .int .i64 3, .string { data := #[] }] 98)).alloc (.cells #[.int .i64 3, .int .i64 1, .string { data := #[101] }, .int .i64 1, .int .i64 1, .string { data := #[] }] 98)).alloc (.cells #[.int .i64 3, .int .i64 1, .string { data := #[101] }] 98)).alloc (.cells #[.slice (some ⟨w1.heap.size, 0, none⟩) 0 0, .slice (some ⟨w1.heap.size + 1, 0, none⟩) 1 1, .slice (some ⟨w1.heap.size + 1 + 1, 0, none⟩) 1 1, .slice (some ⟨w1.heap.size + 1 + 1 + 1, 0, none⟩) 2 2, .slice (some ⟨w1.heap.size + 1 + 1 + 1 + 1, 0, none⟩) 1 1] 41)) →
    W.heap[w1.heap.size]? = some (.cells (flat q0).toArray 98 (0, 0)) ∧ W.heap[w1.heap.size + 1]? = some (.cells (flat q1).toArray 98 (0, 0)) ∧ W.heap[w1.heap.size + 1 + 1]? = some (.cells (flat q2).toArray 98 (0, 0)) ∧ W.heap[w1.heap.size + 1 + 1 + 1]? = some (.cells (flat q3).toArray 98 (0, 0)) ∧ W.heap[w1.heap.size + 1 + 1 + 1 + 1]? = some (.cells (flat q4).toArray 98 (0, 0)) ∧ W.heap[w1.heap.size + 1 + 1 + 1 + 1 + 1]? = some (.cells #[.slice (some ⟨w1.heap.size, 0, none⟩) 0 0, .slice (some ⟨w1.heap.size + 1, 0, none⟩) 1 1, .slice (some ⟨w1.heap.size + 1 + 1, 0, none⟩) 1 1, .slice (some ⟨w1.heap.size + 1 + 1 + 1, 0, none⟩) 2 2, .slice (some ⟨w1.heap.size + 1 + 1 + 1 + 1, 0, none⟩) 1 1] 41 (0, 0)) ∧ Below w1.heap.size w1 W := by
  intro W hW
  subst hW
  have hb : ∀ (V : World) (o : Obj) (k : Nat) (x : Obj), V.heap[k]? = some x → (V.alloc o).heap[k]? = some x := fun V o k x h => ((cell_below V o).block k (Array.getElem?_eq_some_iff.1 h).1).trans h
  have hn : ∀ (V : World) (o : Obj) (k : Nat), k = V.heap.size → (V.alloc o).heap[k]? = some o := fun V o k h => by subst h; exact World.alloc_heap_new V o
  refine ⟨?_, ?_, ?_, ?_, ?_, ?_, bstep (bstep (bstep (bstep (bstep (cell_below _ _) (cell_below _ _)) (cell_below _ _)) (cell_below _ _)) (cell_below _ _)) (cell_below _ _)⟩
  · exact hb _ _ _ _ (hb _ _ _ _ (hb _ _ _ _ (hb _ _ _ _ (hb _ _ _ _ (hn _ _ _ rfl)))))
  · exact hb _ _ _ _ (hb _ _ _ _ (hb _ _ _ _ (hb _ _ _ _ (hn _ _ _ (by simp)))))
  · exact hb _ _ _ _ (hb _ _ _ _ (hb _ _ _ _ (hn _ _ _ (by simp))))
  · exact hb _ _ _ _ (hb _ _ _ _ (hn _ _ _ (by simp)))
  · exact hb _ _ _ _ (hn _ _ _ (by simp))
  · exact hn _ _ _ (by simp)

set_option maxRecDepth 100000 in
set_option maxHeartbeats 4000000 in
theorem l20TopOr_any (R p : Nat) (n : Int) (w : World) (hn : 1 ≤ n) (hn2 : n ≤ 1000000) (hp : p ≤ 999960000) (h : Rd w R p) :
    Calls Try.prog 73 #[.pointer (some ⟨R, 0, none⟩), .int .i64 n] w fun e w' => Drew Dc w R p 0 41 700 e w' := by
  have hlt := h.lt
  go_enter Try.func73, Try.ntmps73
  go_wp2_with fail
  refine (odd_any R p n _ hn hn2 (by omega) h).mono ?_
  rintro e w1 ⟨r, rfl, hR1, hG1⟩
  cases r with
  | false =>
    have HT := hide (l20Top_any R (p + 1) w1 (by omega) hR1)
    clear hR1
    go_wp2_with fail
    refine (unhide HT).mono ?_
    rintro e w2 ⟨v, t, p2, rfl, hO, hl0, hl, hD, hR2, hp2, hG2⟩
    have FIN := hide (drew_mk (OwnC.base hO hG1.size) hl0 hl hD hR2 (show p2 ≤ p + 700 by omega) (grown_trans hG1 hG2))
    clear HT hO hD hR2 hG2 hG1
    go_wp2
    go_ret
    exact unhide FIN
  | true =>
    have HS := hide (six_blocks w1)
    go_wp2_with fail
    generalize hW : ((((((w1.alloc (.cells #[] 98)).alloc (.cells #[.int .i64 1, .int .i64 0, .string { data := #[] }] 98)).alloc (.cells #[.int .i64 2, .int .i64 3, .string { data := #[] }] 98)).alloc (.cells #[.int .i64 3, .int .i64 1, .string { data := #[101] }, .int .i64 1, .int .i64 1, .string { data := #[] }] 98)).alloc (.cells #[.int .i64 3, .int .i64 1, .string { data := #[101] }] 98)).alloc (.cells #[.slice (some ⟨w1.heap.size, 0, none⟩) 0 0, .slice (some ⟨w1.heap.size + 1, 0, none⟩) 1 1, .slice (some ⟨w1.heap.size + 1 + 1, 0, none⟩) 1 1, .slice (some ⟨w1.heap.size + 1 + 1 + 1, 0, none⟩) 2 2, .slice (some ⟨w1.heap.size + 1 + 1 + 1 + 1, 0, none⟩) 1 1] 41)) = W
    obtain ⟨b0, b1, b2, b3, b4, b5, hbW⟩ := unhide HS W hW.symm
    clear HS hW
    have hRl := hR1.lt
    have hRW : Rd W R (p + 1) := hR1.keep (fun k hk => hbW.block k (by omega))
    have hGW := grown_trans hG1 (grown_below (row := some R) hbW)
    have HP := hide (pick_any R (p + 1) 5 W (by omega) (by omega) (by omega) hRW)
    refine (unhide HP).mono ?_
    rintro e w2 ⟨x, rfl, x0, x1, hR2, hG2⟩
    clear HP hRW
    obtain ⟨j, rfl⟩ := Int.eq_ofNat_of_zero_le x0
    have hG := grown_trans hGW hG2
    have hs1 := hG1.size
    have keep : ∀ k o, w1.heap.size ≤ k → W.heap[k]? = some o → w2.heap[k]? = some o := fun k o hk ho => (hG2.block k (Array.getElem?_eq_some_iff.1 ho).1 (by simp; omega)).trans ho
    have c0 := keep _ _ (by omega) b0
    have c1 := keep _ _ (by omega) b1
    have c2 := keep _ _ (by omega) b2
    have c3 := keep _ _ (by omega) b3
    have c4 := keep _ _ (by omega) b4
    have c5 := keep _ _ (by omega) b5
    have o0 : Hid (Drew Dc w R p 0 41 700 (.returned (.slice (some ⟨w1.heap.size, 0, none⟩) 0 0)) w2) := drew_mk (own_blk (t := q0) c0 (by omega) (by decide)) (by decide) (by decide) qs_dc.1 hR2 (by omega) hG
    have o1 : Hid (Drew Dc w R p 0 41 700 (.returned (.slice (some ⟨w1.heap.size + 1, 0, none⟩) 1 1)) w2) := drew_mk (own_blk (t := q1) c1 (by omega) (by decide)) (by decide) (by decide) qs_dc.2.1 hR2 (by omega) hG
    have o2 : Hid (Drew Dc w R p 0 41 700 (.returned (.slice (some ⟨w1.heap.size + 1 + 1, 0, none⟩) 1 1)) w2) := drew_mk (own_blk (t := q2) c2 (by omega) (by decide)) (by decide) (by decide) qs_dc.2.2.1 hR2 (by omega) hG
    have o3 : Hid (Drew Dc w R p 0 41 700 (.returned (.slice (some ⟨w1.heap.size + 1 + 1 + 1, 0, none⟩) 2 2)) w2) := drew_mk (own_blk (t := q3) c3 (by omega) (by decide)) (by decide) (by decide) qs_dc.2.2.2.1 hR2 (by omega) hG
    have o4 : Hid (Drew Dc w R p 0 41 700 (.returned (.slice (some ⟨w1.heap.size + 1 + 1 + 1 + 1, 0, none⟩) 1 1)) w2) := drew_mk (own_blk (t := q4) c4 (by omega) (by decide)) (by decide) (by decide) qs_dc.2.2.2.2 hR2 (by omega) hG
    have d0 : w2.cell? ⟨w1.heap.size + 1 + 1 + 1 + 1 + 1, 0, none⟩ = some (.slice (some ⟨w1.heap.size, 0, none⟩) 0 0) := by simp only [World.cell?]; rw [c5]; rfl
    have d1 : w2.cell? ⟨w1.heap.size + 1 + 1 + 1 + 1 + 1, 1, none⟩ = some (.slice (some ⟨w1.heap.size + 1, 0, none⟩) 1 1) := by simp only [World.cell?]; rw [c5]; rfl
    have d2 : w2.cell? ⟨w1.heap.size + 1 + 1 + 1 + 1 + 1, 2, none⟩ = some (.slice (some ⟨w1.heap.size + 1 + 1, 0, none⟩) 1 1) := by simp only [World.cell?]; rw [c5]; rfl
    have d3 : w2.cell? ⟨w1.heap.size + 1 + 1 + 1 + 1 + 1, 3, none⟩ = some (.slice (some ⟨w1.heap.size + 1 + 1 + 1, 0, none⟩) 2 2) := by simp only [World.cell?]; rw [c5]; rfl
    have d4 : w2.cell? ⟨w1.heap.size + 1 + 1 + 1 + 1 + 1, 4, none⟩ = some (.slice (some ⟨w1.heap.size + 1 + 1 + 1 + 1, 0, none⟩) 1 1) := by simp only [World.cell?]; rw [c5]; rfl
    clear b0 b1 b2 b3 b4 b5 c0 c1 c2 c3 c4 c5 keep hG2 hGW hbW hR2 hG hG1 hR1
    rcases (show j = 0 ∨ j = 1 ∨ j = 2 ∨ j = 3 ∨ j = 4 by omega) with rfl | rfl | rfl | rfl | rfl
    · go_wp2
      go_ret
      exact unhide o0
    · go_wp2
      go_ret
      exact unhide o1
    · go_wp2
      go_ret
      exact unhide o2
    · go_wp2
      go_ret
      exact unhide o3
    · go_wp2
      go_ret
      exact unhide o4
end Go.Proofs.Ytkedckmpjedjoaa

/- The draw of FnTrlNew. -/
namespace Go.Proofs.Ytkedckmpjedjoaa
open Go.RowKit
set_option linter.unusedVariables false
set_option linter.unusedSimpArgs false

set_option maxHeartbeats 400000 in
theorem drawTrlNew_any (ao : Option Addr) (len cap : Nat) (z : Nat → Int) (w : World) (h : Bin w ao len cap z) :
    Calls Try.prog 25 #[.slice ao len cap] w fun e w' => DrewB w e w' := by
  go_enter Try.func25, Try.ntmps25
  go_wp2_with fail
  refine (open_any ao len cap z _ h).mono ?_
  rintro e w1 ⟨rfl, hR1, hb1⟩
  go_wp2_with fail
  refine (l20TopOr_any w.heap.size 0 4 _ (by omega) (by omega) (by omega) hR1).mono ?_
  intro e w2 hD
  have hs1 := hR1.lt
  obtain ⟨v, t, p2, he, h1, _, h3, h4, _, _, h7⟩ := hD
  subst he
  have FIN := hide (show DrewB w (.returned v) w2 from ⟨v, t, rfl, h1.base hb1.size, h3, h4, hb1.grown h7 hb1.size (fun k e => by cases e; exact Nat.le_refl _)⟩)
  clear h1 h3 h4 h7
  go_wp2
  go_ret
  exact unhide FIN
end Go.Proofs.Ytkedckmpjedjoaa

/- caTrail, caSolve at two states at their beginning. -/
namespace Go.Proofs.Ytkedckmpjedjoaa
open Go.RowKit Go.Shelf
set_option linter.unusedVariables false
set_option linter.unusedSimpArgs false

theorem topB_nil : topB [] = false := by
  cases hy : topB [] with
  | false => rfl
  | true =>
    have := top_len hy
    unfold topB at hy
    simp only [Bool.and_eq_true] at hy
    have h0 := (trm_len hy.1.1).1
    simp at h0

/-- An address, where there is a place to read. -/
theorem row_some {w : World} {ao : Option Addr} {t : List C} (h : Row w ao t) (hy : topB t = true) : ∃ b off, ao = some ⟨b, off, none⟩ ∧ At w b off t := by
  rcases h with rfl | h
  · rw [topB_nil] at hy; cases hy
  · exact h

set_option maxRecDepth 100000 in
theorem caTrail7 (t : List C) (f f' : F7) (V : World) (hF : Fit t) (h : Rd7 t f V) (h' : Rd7 t f' V) :
    Calls Try.prog 27 #[.agg #[.int .i64 f.s, .slice f.ga f.gn f.gc, .slice f.ba 0 f.bc, .int .i64 f.n, .slice f.ha 0 f.hc, .slice f.ta f.tn f.tc, .slice f.oa 0 f.oc], .agg #[.int .i64 f'.s, .slice f'.ga f'.gn f'.gc, .slice f'.ba 0 f'.bc, .int .i64 f'.n, .slice f'.ha 0 f'.hc, .slice f'.ta f'.tn f'.tc, .slice f'.oa 0 f'.oc]] V fun e w' => e = .returned (.bool true) ∧ Below V.heap.size V w' := by
  rcases h with ⟨h0, rfl⟩ | ⟨h0, h1, h2, h3, h4, h5, g, pa, pb, pc, px, py, pz, e, hr, c0, c1, c2, c3, c4⟩
  · rcases h' with ⟨_, rfl⟩ | ⟨h0', _⟩
    · exact caTrail_gen 0 0 none none none none none none none none none none 0 0 0 0 0 0 0 0 0 0 0 [] V (Nat.zero_le _) (.inl rfl) (.inl rfl) (fun W hW => caGoals_nil none none 0 0 W)
    · rw [h0] at h0'; cases h0'
  · rcases h' with ⟨h0', _⟩ | ⟨_, h1', h2', h3', h4', h5', g', pa', pb', pc', px', py', pz', e', hr', c0', c1', c2', c3', c4'⟩
    · rw [h0] at h0'; cases h0'
    · rw [h1, h2, h3, h4, e, h1', h2', h3', h4', e']
      refine caTrail_gen 1 ((freeOf t).length : Int) (some ⟨g, 0, none⟩) (some ⟨g', 0, none⟩) _ _ _ _ _ _ _ _ 1 _ _ _ _ _ _ _ _ _ _ t V (by have := top_len h0; unfold maxLen; omega) h5 h5' (fun W hW => ?_)
      have lg : g < V.heap.size := World.block_lt_of_cell? V ⟨_, _, none⟩ c0
      have lg' : g' < V.heap.size := World.block_lt_of_cell? V ⟨_, _, none⟩ c0'
      exact caGoals_one g g' _ _ pa pb pc pa' pb' pc' px py pz px' py' pz' t W (by have := top_len h0; unfold maxLen; omega) (hr.below hW) (hr'.below hW)
        ((hW.cell (p := ⟨g, 0, none⟩) lg).trans c0) ((hW.cell (p := ⟨g, 1, none⟩) lg).trans c1) ((hW.cell (p := ⟨g, 2, none⟩) lg).trans c2) ((hW.cell (p := ⟨g, 3, none⟩) lg).trans c3) ((hW.cell (p := ⟨g, 4, none⟩) lg).trans c4)
        ((hW.cell (p := ⟨g', 0, none⟩) lg').trans c0') ((hW.cell (p := ⟨g', 1, none⟩) lg').trans c1') ((hW.cell (p := ⟨g', 2, none⟩) lg').trans c2') ((hW.cell (p := ⟨g', 3, none⟩) lg').trans c3') ((hW.cell (p := ⟨g', 4, none⟩) lg').trans c4')

set_option maxRecDepth 100000 in
theorem caSolve7 (t : List C) (f f' : F7) (V : World) (hF : Fit t) (h : Rd7 t f V) (h' : Rd7 t f' V) :
    Calls Try.prog 29 #[.agg #[.int .i64 f.s, .slice f.ga f.gn f.gc, .slice f.ba 0 f.bc, .int .i64 f.n, .slice f.ha 0 f.hc, .slice f.ta f.tn f.tc, .slice f.oa 0 f.oc], .agg #[.int .i64 f'.s, .slice f'.ga f'.gn f'.gc, .slice f'.ba 0 f'.bc, .int .i64 f'.n, .slice f'.ha 0 f'.hc, .slice f'.ta f'.tn f'.tc, .slice f'.oa 0 f'.oc]] V fun e w' => e = .returned (.bool true) ∧ Below V.heap.size V w' := by
  rcases h with ⟨h0, rfl⟩ | ⟨h0, h1, h2, h3, h4, h5, g, pa, pb, pc, px, py, pz, e, hr, c0, c1, c2, c3, c4⟩
  · rcases h' with ⟨_, rfl⟩ | ⟨h0', _⟩
    · exact caSolve_gen 0 0 none none none none none none none none none none 0 0 0 0 0 0 0 0 0 0 0 [] V (Nat.zero_le _) (.inl rfl) (.inl rfl) (fun W hW => caGoals_nil none none 0 0 W)
    · rw [h0] at h0'; cases h0'
  · rcases h' with ⟨h0', _⟩ | ⟨_, h1', h2', h3', h4', h5', g', pa', pb', pc', px', py', pz', e', hr', c0', c1', c2', c3', c4'⟩
    · rw [h0] at h0'; cases h0'
    · rw [h1, h2, h3, h4, e, h1', h2', h3', h4', e']
      refine caSolve_gen 1 ((freeOf t).length : Int) (some ⟨g, 0, none⟩) (some ⟨g', 0, none⟩) _ _ _ _ _ _ _ _ 1 _ _ _ _ _ _ _ _ _ _ t V (by have := top_len h0; unfold maxLen; omega) h5 h5' (fun W hW => ?_)
      have lg : g < V.heap.size := World.block_lt_of_cell? V ⟨_, _, none⟩ c0
      have lg' : g' < V.heap.size := World.block_lt_of_cell? V ⟨_, _, none⟩ c0'
      exact caGoals_one g g' _ _ pa pb pc pa' pb' pc' px py pz px' py' pz' t W (by have := top_len h0; unfold maxLen; omega) (hr.below hW) (hr'.below hW)
        ((hW.cell (p := ⟨g, 0, none⟩) lg).trans c0) ((hW.cell (p := ⟨g, 1, none⟩) lg).trans c1) ((hW.cell (p := ⟨g, 2, none⟩) lg).trans c2) ((hW.cell (p := ⟨g, 3, none⟩) lg).trans c3) ((hW.cell (p := ⟨g, 4, none⟩) lg).trans c4)
        ((hW.cell (p := ⟨g', 0, none⟩) lg').trans c0') ((hW.cell (p := ⟨g', 1, none⟩) lg').trans c1') ((hW.cell (p := ⟨g', 2, none⟩) lg').trans c2') ((hW.cell (p := ⟨g', 3, none⟩) lg').trans c3') ((hW.cell (p := ⟨g', 4, none⟩) lg').trans c4')

end Go.Proofs.Ytkedckmpjedjoaa

/- spec.TrlNew at any row. -/
namespace Go.Proofs.Ytkedckmpjedjoaa
open Go.RowKit Go.Shelf
set_option linter.unusedVariables false
set_option linter.unusedSimpArgs false
attribute [-go_sem] Go.Instr.storeAt

theorem specSlvNewR (ao : Option Addr) (cap : Nat) (t : List C) (w : World) (hm : t.length ≤ maxLen) (hA : Row w ao t) (hF : Fit t) :
    Calls Try.prog 17 #[.slice ao t.length cap] w fun e w' => ∃ f : F7, e = .returned (.agg #[.int .i64 f.s, .slice f.ga f.gn f.gc, .slice f.ba 0 f.bc, .int .i64 f.n, .slice f.ha 0 f.hc, .slice f.ta f.tn f.tc, .slice f.oa 0 f.oc]) ∧ Rd7 t f w' ∧ Below w.heap.size w w' := by
  cases hy : topB t with
  | false =>
    refine (specSlvNew_no ao cap t w hm hA hF hy).mono ?_
    rintro e w' ⟨rfl, hb⟩
    exact ⟨zero7, rfl, .inl ⟨hy, rfl⟩, hb⟩
  | true =>
    obtain ⟨b, off, rfl, h⟩ := row_some hA hy
    exact specSlvNew7 b off cap t w hm h hF

set_option maxRecDepth 100000 in
set_option maxHeartbeats 4000000 in
theorem specTrlNewR (ao : Option Addr) (cap : Nat) (t : List C) (w : World) (hm : t.length ≤ maxLen) (hA : Row w ao t) (hF : Fit t) :
    Calls Try.prog 28 #[.slice ao t.length cap] w fun e w' => ∃ f : F7, e = .returned (.agg #[.int .i64 f.s, .slice f.ga f.gn f.gc, .slice f.ba 0 f.bc, .int .i64 f.n, .slice f.ha 0 f.hc, .slice f.ta f.tn f.tc, .slice f.oa 0 f.oc]) ∧ Rd7 t f w' ∧ Below w.heap.size w w' := by
  have hb0 := cell_below w (.cells #[.int .i64 0, .slice none 0 0, .slice none 0 0, .int .i64 0, .slice none 0 0, .slice none 0 0, .slice none 0 0] 55)
  have hR0 := World.alloc_heap_new w (.cells #[.int .i64 0, .slice none 0 0, .slice none 0 0, .int .i64 0, .slice none 0 0, .slice none 0 0, .slice none 0 0] 55)
  have hlt0 : w.heap.size < (w.alloc (.cells #[.int .i64 0, .slice none 0 0, .slice none 0 0, .int .i64 0, .slice none 0 0, .slice none 0 0, .slice none 0 0] 55)).heap.size := by simp
  have HS := hide (specSlvNewR ao cap t (w.alloc (.cells #[.int .i64 0, .slice none 0 0, .slice none 0 0, .int .i64 0, .slice none 0 0, .slice none 0 0, .slice none 0 0] 55)) hm (hA.below hb0) hF)
  have HB0 := hide hb0
  have HR0 := hide hR0
  clear hA hF hb0 hR0
  go_enter Try.func28, Try.ntmps28
  go_upto_region 1 with fail
  generalize w.alloc (.cells #[.int .i64 0, .slice none 0 0, .slice none 0 0, .int .i64 0, .slice none 0 0, .slice none 0 0, .slice none 0 0] 55) = W at *
  go_wp2_with fail
  refine (unhide HS).mono ?_
  rintro e w2 ⟨f, rfl, hO, hb2⟩
  clear HS
  have hst2 := newed7 w2 #[.int .i64 0, .slice none 0 0, .slice none 0 0, .int .i64 0, .slice none 0 0, .slice none 0 0, .slice none 0 0] #[.int .i64 f.s, .slice f.ga f.gn f.gc, .slice f.ba 0 f.bc, .int .i64 f.n, .slice f.ha 0 f.hc, .slice f.ta f.tn f.tc, .slice f.oa 0 f.oc] rfl rfl (by simp [Value.oneCell'])
  have ha := cell_below w2 (.cells #[.int .i64 f.s, .slice f.ga f.gn f.gc, .slice f.ba 0 f.bc, .int .i64 f.n, .slice f.ha 0 f.hc, .slice f.ta f.tn f.tc, .slice f.oa 0 f.oc] 43)
  have h1 := World.alloc_heap_new w2 (.cells #[.int .i64 f.s, .slice f.ga f.gn f.gc, .slice f.ba 0 f.bc, .int .i64 f.n, .slice f.ha 0 f.hc, .slice f.ta f.tn f.tc, .slice f.oa 0 f.oc] 43)
  go_upto_region 2 with fail
  clear hst2
  have hW2 := hb2.size
  have hR3 := (ha.block w.heap.size (by omega)).trans ((hb2.block w.heap.size hlt0).trans (unhide HR0))
  have hO3 := hO.below ha
  have hB3 := bstep (bstep (unhide HB0) hb2) ha
  generalize w2.alloc (.cells #[.int .i64 f.s, .slice f.ga f.gn f.gc, .slice f.ba 0 f.bc, .int .i64 f.n, .slice f.ha 0 f.hc, .slice f.ta f.tn f.tc, .slice f.oa 0 f.oc] 43) = w3 at *
  obtain ⟨a0, a1, a2, a3, a4, a5, a6, _⟩ := res7 h1
  obtain ⟨w6, hst6, hR6, hoth, hsz6, hbel⟩ := storet hR3 (.int .i64 f.s) (.slice f.ga f.gn f.gc) (.slice none 0 0) (.int .i64 f.n) (.slice none 0 0) (.slice f.ta f.tn f.tc) (.slice none 0 0) (by simp [Value.oneCell'])
  have hB6 := hbel w.heap.size w hB3 (Nat.le_refl _)
  have HO6 := hide (hO3.other hR3 hoth)
  have HB6 := hide hB6
  have HR6 := hide hR6
  clear hB6 hR6 hR3 hoth hsz6 hbel hO hO3 hB3 hb2 ha h1 hW2 HB0 HR0
  go_wp2
  obtain ⟨r0, r1, r2, r3, r4, r5, r6, _⟩ := res7 (unhide HR6)
  exact bodyPost_ret (v := .agg #[.int .i64 f.s, .slice f.ga f.gn f.gc, .slice none 0 0, .int .i64 f.n, .slice none 0 0, .slice f.ta f.tn f.tc, .slice none 0 0]) (by simp [results, Try.results28, go_sem, r0, r1, r2, r3, r4, r5, r6]) rfl ⟨⟨f.s, f.n, f.ga, none, none, f.ta, none, f.gn, f.gc, 0, 0, f.tn, f.tc, 0⟩, rfl, (unhide HO6).like (fun h => by rw [h]; rfl) rfl rfl rfl rfl rfl rfl, unhide HB6⟩
end Go.Proofs.Ytkedckmpjedjoaa
