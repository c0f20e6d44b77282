/- addPlace of the program. -/
import Derived.Test.YtpfoaleehdiahaaQQI7
namespace Go.Proofs.Ytpfoaleehdiahaa
open Go.RowKit Go.Shelf
set_option linter.unusedVariables false
set_option linter.unusedSimpArgs false
attribute [-go_sem] Go.Builtin.append_

set_option maxRecDepth 100000 in
set_option maxHeartbeats 4000000 in
theorem addPlace_any (w : World) (P cl : Nat) (ps : List Pc) (y : Pc) (wr : World) (vc vp : Value) (hl : ps.length ≤ 6) (hs : y.s.size ≤ maxLen) (h : PrM w P cl ps wr vc vp) :
    Calls Try.prog 101 #[.pointer (some ⟨P, 0, none⟩), .agg #[.string y.s, .int .i64 y.n, .int .i64 y.d]] wr fun e w' => (okPl ps y = true ∧ e = .returned (.bool true) ∧ ∃ vp', PrM w P cl (ps ++ [y]) w' vc vp') ∨ (okPl ps y = false ∧ e = .returned (.bool false) ∧ Below wr.heap.size wr w') := by
  have hsh : ∃ ao cap, vp = .slice ao ps.length cap := by
    rcases h.op.2 with ⟨e, hn⟩ | ⟨g, cap, cur, e, _⟩
    · exact ⟨none, 0, by rw [e, hn]⟩
    · exact ⟨_, _, e⟩
  obtain ⟨ao, cap, rfl⟩ := hsh
  obtain ⟨hb1, a0, a1, a2⟩ := three_new wr (.string y.s) (.int .i64 y.n) (.int .i64 y.d) 143
  obtain ⟨hb2, _, _, _⟩ := three_new (wr.alloc (.cells #[.string y.s, .int .i64 y.n, .int .i64 y.d] 143)) (.int .i64 3) (.int .i64 y.n) (.string y.s) 79
  have hb12 := bstep hb1 hb2
  have hlw : wr.heap.size < (wr.alloc (.cells #[.string y.s, .int .i64 y.n, .int .i64 y.d] 143)).heap.size := World.block_lt_of_cell? _ ⟨_, _, none⟩ a0
  replace a0 := (hb2.cell (p := ⟨wr.heap.size, 0, none⟩) hlw).trans a0
  replace a1 := (hb2.cell (p := ⟨wr.heap.size, 1, none⟩) hlw).trans a1
  replace a2 := (hb2.cell (p := ⟨wr.heap.size, 2, none⟩) hlw).trans a2
  have HCO := hide (fun (W : World) => cellOk_any ⟨3, y.n, y.s⟩ W hs)
  have HM := hide h
  have HEQ : Hid (okPl ps y = (okC ⟨3, y.n, y.s⟩ && decide (1 ≤ y.d ∧ y.d < 3) && decide (ps.length ≠ 6) && decide (nodeP ps y.s y.n = 0))) := rfl
  obtain ⟨B, hB⟩ : ∃ B, B = okC ⟨3, y.n, y.s⟩ := ⟨_, rfl⟩
  rw [← hB] at HEQ
  have HCB : Hid (∀ W : World, Calls Try.prog 138 #[.agg #[.int .i64 3, .int .i64 y.n, .string y.s]] W fun e w' => e = .returned (.bool B) ∧ Below W.heap.size W w') := fun W => by rw [hB]; exact unhide HCO W
  clear HCO hB h hs hb1 hb2 hlw
  go_enter Try.func101, Try.ntmps101
  go_wp2_with fail
  generalize (wr.alloc (.cells #[.string y.s, .int .i64 y.n, .int .i64 y.d] 143)).alloc (.cells #[.int .i64 3, .int .i64 y.n, .string y.s] 79) = w0 at hb12 a0 a1 a2 ⊢
  have hl0 : wr.heap.size < w0.heap.size := World.block_lt_of_cell? w0 ⟨_, _, none⟩ a0
  refine (unhide HCB w0).mono ?_
  rintro e w1 ⟨rfl, hb1⟩
  replace a0 := (hb1.cell (p := ⟨wr.heap.size, 0, none⟩) hl0).trans a0
  replace a1 := (hb1.cell (p := ⟨wr.heap.size, 1, none⟩) hl0).trans a1
  replace a2 := (hb1.cell (p := ⟨wr.heap.size, 2, none⟩) hl0).trans a2
  have hB1 := bstep hb12 hb1
  have hl1 : wr.heap.size < w1.heap.size := World.block_lt_of_cell? w1 ⟨_, _, none⟩ a0
  have hM1 := (unhide HM).below hB1
  clear HCB HM hb12 hb1 hl0
  cases B with
  | false =>
    have HF : Hid (okPl ps y = false) := by show _ = _; rw [unhide HEQ]; rfl
    clear hM1
    go_wp2
    go_ret
    exact .inr ⟨unhide HF, rfl, hB1⟩
  | true =>
    by_cases hd1 : 1 ≤ y.d
    case neg =>
      have HF : Hid (okPl ps y = false) := by show _ = _; rw [unhide HEQ]; simp [hd1]
      clear hM1
      go_wp2
      go_ret
      exact .inr ⟨unhide HF, rfl, hB1⟩
    by_cases hd2 : y.d < 3
    case neg =>
      have HF : Hid (okPl ps y = false) := by show _ = _; rw [unhide HEQ]; simp [hd2]
      clear hM1
      go_wp2
      go_ret
      exact .inr ⟨unhide HF, rfl, hB1⟩
    obtain ⟨c0, c1, f0, f1⟩ := program_cells hM1.hp
    by_cases h6 : ps.length = 6
    · have HF : Hid (okPl ps y = false) := by show _ = _; rw [unhide HEQ]; simp [h6]
      have h6' : ((ps.length : Int) == 6) = true := by simp; omega
      clear hM1 h6
      go_wp2
      go_ret
      exact .inr ⟨unhide HF, rfl, hB1⟩
    have h6' : ((ps.length : Int) == 6) = false := by simp; omega
    have HND := hide (node_any P ao cap ps y.s y.n w1 (by omega) c1 (rowP_own hM1.op))
    have hPl := hM1.lt
    have hlo := hM1.lo
    by_cases hnd : nodeP ps y.s y.n = 0
    · have HT : Hid (okPl ps y = true) := by show _ = _; rw [unhide HEQ]; simp [hd1, hd2, h6, hnd]
      rw [hnd] at HND
      have HM1 := hide hM1
      clear hM1 hnd h6
      obtain ⟨i0, hi, hz0, hz1, hz2⟩ := info_parts Try.infoP
      go_wp2_with (go_at_call 106; refine (unhide HND).mono ?_; rintro e w2 ⟨rfl, hb2⟩)
      have hM2 := (unhide HM1).below hb2.drew
      obtain ⟨p0, p1, s0, s1⟩ := program_cells hM2.hp
      have b0 := (hb2.drew.cell (p := ⟨wr.heap.size, 0, none⟩) hl1).trans a0
      have b1 := (hb2.drew.cell (p := ⟨wr.heap.size, 1, none⟩) hl1).trans a1
      have b2 := (hb2.drew.cell (p := ⟨wr.heap.size, 2, none⟩) hl1).trans a2
      have pa1 := cell_keep5 p1 (.cells #[.string y.s, .int .i64 y.n, .int .i64 y.d] 143)
      have hs2 := hb2.size
      have key := World.alloc_heap_new w2.drew (.cells #[.string y.s, .int .i64 y.n, .int .i64 y.d] 143)
      obtain ⟨g', cap', w3, hr, hown', hgrow, hat, hgl⟩ := run_append_lies (P := Try.prog) (w2.drew.alloc (.cells #[.string y.s, .int .i64 y.n, .int .i64 y.d] 143)) 31 31 (P + 1) 143 i0 _ 3 32 Try.underlying31 hi hz0 hz1 hz2 rfl (by decide) (.slice ao ps.length cap) ps.length (flatPc ps) (World.ownsRow.alloc hM2.op _) ⟨w2.drew.heap.size, 0, none⟩ 1 1 [.string y.s, .int .i64 y.n, .int .i64 y.d] rfl (fun j u hj => by
        match j, hj with
        | 0, hj => simp at hj; subst hj; show (w2.drew.alloc (.cells #[.string y.s, .int .i64 y.n, .int .i64 y.d] 143)).cell? ⟨w2.drew.heap.size, 0 + 0, none⟩ = _; simp only [World.cell?]; rw [key]; rfl
        | 1, hj => simp at hj; subst hj; show (w2.drew.alloc (.cells #[.string y.s, .int .i64 y.n, .int .i64 y.d] 143)).cell? ⟨w2.drew.heap.size, 0 + 1, none⟩ = _; simp only [World.cell?]; rw [key]; rfl
        | 2, hj => simp at hj; subst hj; show (w2.drew.alloc (.cells #[.string y.s, .int .i64 y.n, .int .i64 y.d] 143)).cell? ⟨w2.drew.heap.size, 0 + 2, none⟩ = _; simp only [World.cell?]; rw [key]; rfl) (by simp [Value.oneCell']) (by omega) (by unfold maxLen; omega) (by omega) (by simp; omega) _ rfl
      have hr' : Sem.run Try.prog (Builtin.append_ #[31, 31] 31 #[.slice ao ps.length cap, .slice (some ⟨w2.heap.size, 0, none⟩) 1 1]) (w2.alloc (.cells #[.string y.s, .int .i64 y.n, .int .i64 y.d] 143)).drew = .ok (.slice (some ⟨g', 0, none⟩) (ps.length + 1) cap') w3 := hr
      have pa2 : (w2.alloc (.cells #[.string y.s, .int .i64 y.n, .int .i64 y.d] 143)).drew.cell? ⟨P, 1, none⟩ = some (.slice ao ps.length cap) := pa1
      have pa3 : (w2.alloc (.cells #[.string y.s, .int .i64 y.n, .int .i64 y.d] 143)).cell? ⟨P, 1, none⟩ = some (.slice ao ps.length cap) := pa1
      obtain ⟨hn3, hM3⟩ := prM_place (y := y) hM2 hown' hgrow
      obtain ⟨t0, t1, u0, u1⟩ := program_cells hn3
      have HM3 := hide hM3
      clear hr hM3 hown' hgrow hat hgl hn3 key hM2 HM1 c0 c1 f0 f1 a0 a1 a2
      go_wp2
      go_region_with (fail)
      all_goals go_wp2
      all_goals go_ret
      all_goals exact .inl ⟨unhide HT, rfl, _, unhide HM3⟩
    · have HF : Hid (okPl ps y = false) := by show _ = _; rw [unhide HEQ]; simp [hnd]
      obtain ⟨N, hN⟩ : ∃ N, N = nodeP ps y.s y.n := ⟨_, rfl⟩
      rw [← hN] at HND hnd
      have hnb : (N != 0) = true := by simpa using hnd
      clear hM1 hN
      go_wp2_with (go_at_call 106; refine (unhide HND).mono ?_; rintro e w2 ⟨rfl, hb2⟩)
      go_ret
      exact .inr ⟨unhide HF, rfl, bstep hB1 hb2⟩
end Go.Proofs.Ytpfoaleehdiahaa
