/- clauseOf of the program. -/
import Derived.Test.YtpfoaleehdiahaaQQI4
import Derived.Test.YtpfoaleehdiahaaQSH1
namespace Go.Proofs.Ytpfoaleehdiahaa
open Go.RowKit Go.Shelf
set_option linter.unusedVariables false
set_option linter.unusedSimpArgs false
attribute [-go_sem] Go.Builtin.append_

theorem cell_keep5 {w : World} {a : Addr} {v : Value} (h : w.cell? a = some v) (o : Obj) : (w.alloc o).cell? a = some v := ((cell_below w o).cell (World.block_lt_of_cell? w a h)).trans h
theorem clK_node {wr w2 w3 : World} {P k : Nat} {bv v0 : Value} {vs : List Value} {ob : Obj} (h1 : wr.heap[P]? = some (.cells #[v0, bv] 201 (0, 0))) (h2 : wr.ownsRow (P + 1) 203 1 bv k vs) (hb : Below wr.heap.size wr w2) (hgrow : (w2.alloc ob).grownBy w3 bv.ownBlock) : w3.heap[P]? = some (.cells #[v0, bv] 201 (0, 0)) := by
  have hP : P < wr.heap.size := (Array.getElem?_eq_some_iff.1 h1).1
  have hs2 := hb.size
  have hsa : (w2.alloc ob).heap.size = w2.heap.size + 1 := by simp
  rw [hgrow.block P (by omega) (fun e => by have := (h2.lt P e.symm).1; omega), Below.heap_alloc _ _ _ (by omega), hb.block P hP]
  exact h1

set_option maxRecDepth 100000 in
set_option maxHeartbeats 8000000 in
theorem clauseOf_any (x : Cl) (v0 v1 : Value) (w : World) (hF : FitCl x) (hs : szCl x ≤ 1048576) (hv : ClV w x v0 v1) :
    Calls Try.prog 103 #[.agg #[v0, v1]] w fun e w' => ∃ P, e = .returned (ckV x P) ∧ Below w.heap.size w w' := by
  unfold szCl at hs
  obtain ⟨⟨xa, xc, rfl, a1, a2, hA⟩, ⟨ya, yc, rfl, b1, b2, hB⟩⟩ := hv
  obtain ⟨hb0, d0, d1⟩ := two_new w (.slice xa x.h.length xc) (.slice ya x.g.length yc) 141
  have hgl : x.g.length ≤ 1048576 := by omega
  have HB := hide (fun (W : World) (hW : Below w.heap.size w W) => hB.below hW)
  have HT := hide (fun (W : World) (hW : Below w.heap.size w W) => treeOf_opt w.heap.size xa xc x.h W hW.size a1 a2 (hA.below hW) hF.1.1)
  have HG := hide (fun (k : Nat) (hk : k < x.g.length) (v0 v1 v2 v3 : Value) (W : World) (hv : GlV W x.g[k] v0 v1 v2 v3) => goalOf_gl x.g[k] v0 v1 v2 v3 W (hF.2 _ (List.getElem_mem hk)) (Nat.le_trans (totG_mem (List.getElem_mem hk)) (by omega)) hv)
  obtain ⟨i0, hi, hz0, hz1, hz2⟩ := info_parts (show (Try.prog.info? 203).map (fun i => (i.zero, i.size, i.bytes)) = some (some .nilIface, 1, 16) by kernel_rfl)
  clear hA hB a1 a2 b1 b2 hs hF
  by_cases h4 : x.g.length ≤ 4
  · go_enter Try.func103, Try.ntmps103
    go_wp2_with fail
    generalize w.alloc (.cells #[.slice xa x.h.length xc, .slice ya x.g.length yc] 141) = w0 at hb0 d0 d1 ⊢
    have hl0 : w.heap.size < w0.heap.size := World.block_lt_of_cell? w0 ⟨_, _, none⟩ d1
    refine (unhide HT w0 hb0).mono ?_
    rintro e w1 ⟨o, rfl, hL, hb1⟩
    have e1 := (hb1.cell (p := ⟨w.heap.size, 1, none⟩) hl0).trans d1
    have hB1 := bstep hb0 hb1
    have hl1 : w.heap.size < w1.heap.size := World.block_lt_of_cell? w1 ⟨_, _, none⟩ e1
    have hbl := cell_below w1 (.cells #[ptrV o, .slice none 0 0] 201)
    have hK0 : ClK x o w w1.heap.size 0 (w1.alloc (.cells #[ptrV o, .slice none 0 0] 201)) (.slice none 0 0) :=
      ⟨[], World.alloc_heap_new w1 _, World.ownsRow_nil _ _ _ _, fun i _ h => absurd h (Nat.not_lt_zero _), (show LkP w.heap.size w1.heap.size w1 o x.h from hL).kept (fun b _ hb => Below.heap_alloc _ _ _ hb), Nat.le_of_lt hl1, bstep hB1 hbl⟩
    have f1 := cell_keep5 e1 (.cells #[ptrV o, .slice none 0 0] 201)
    have HK0 := hide hK0
    clear hK0 hL hb1 hl0 d0 d1 hb0 hbl e1 HT
    obtain ⟨P, hP⟩ : ∃ P, P = w1.heap.size := ⟨_, rfl⟩
    unfold ptrV at f1 ⊢
    go_wp2
    rw [← hP]
    have HK1 : Hid (ClK x o w P 0 (w1.alloc (.cells #[.pointer (o.map fun b => ⟨b, 0, none⟩), .slice none 0 0] 201)) (.slice none 0 0)) := by rw [hP]; exact unhide HK0
    generalize w1.alloc (.cells #[.pointer (o.map fun b => ⟨b, 0, none⟩), .slice none 0 0] 201) = wa at f1 HK1 ⊢
    clear HK0 hP hB1 hl1
    go_loopw [18] (fun i wr => ∃ (k : Nat) (bv : Value), k ≤ x.g.length ∧ i = .int .i64 k ∧ ClK x o w P k wr bv) (fun i _ => x.g.length - (intOf i).toNat)
    case atStart => exact ⟨0, _, Nat.zero_le _, rfl, unhide HK1⟩
    case round =>
      obtain ⟨k, bv, hk, rfl, hK⟩ := hrel
      clear HK1 f1
      by_cases hlt : k < x.g.length
      · obtain ⟨vs, hh1, hh2, hh3, hh4, hwP, hBr⟩ := hK
        have hPr : P < wr.heap.size := (Array.getElem?_eq_some_iff.1 hh1).1
        have HH1 := hide hh1
        have HO := hide hh2
        have HH3 := hide hh3
        have HH4 := hide hh4
        obtain ⟨_, hcP, _, _⟩ := clause_cells hh1
        clear hh1 hh2 hh3 hh4
        rcases unhide HB wr hBr with e | ⟨b, off, e, hA⟩
        · rw [e] at hlt; simp at hlt
        subst e
        obtain ⟨v0, v1, v2, v3, g0, g1, g2, g3, hv⟩ := hA k hlt
        have HV := hide hv
        obtain ⟨q0, ⟨pa, pc, q1, _⟩, ⟨qa, qc, q2, _⟩, ⟨ra, rc, q3, _⟩⟩ := hv
        subst q0 q1 q2 q3
        obtain ⟨y, hy⟩ : ∃ y, y = x.g[k] := ⟨_, rfl⟩
        have hbG0 := cell_below wr (.cells #[.int .i64 x.g[k].k, .slice pa x.g[k].a.length pc, .slice qa x.g[k].b.length qc, .slice ra x.g[k].c.length rc] 100)
        have H := hide (unhide HG k hlt _ _ _ _ _ ((unhide HV).below hbG0.drew))
        have hbG := hbG0.drew
        obtain ⟨m1, m2, m3, m4⟩ := four_new wr (.int .i64 x.g[k].k) (.slice pa x.g[k].a.length pc) (.slice qa x.g[k].b.length qc) (.slice ra x.g[k].c.length rc) 100
        have hcPa := cell_keep5 hcP (.cells #[.int .i64 x.g[k].k, .slice pa x.g[k].a.length pc, .slice qa x.g[k].b.length qc, .slice ra x.g[k].c.length rc] 100)
        clear HV hA HG HB hbG0 hy y
        cases hw : wholeG x.g[k] with
        | true =>
          go_wp2
          go_region_with (first
            | (go_at_call 139; refine (unhide H).mono ?_; rintro e w2 ⟨vv, rfl, hG, hb2⟩; obtain ⟨T, u, rfl⟩ := hG.yes hw; have hs2 := hb2.size; have hb20 : Below wr.heap.size wr w2 := bstep hbG hb2; have hP2 : P < w2.heap.size := Nat.lt_of_lt_of_le hPr hb20.size; have hh2 := (hb20.block P hPr).trans (unhide HH1); have hc1 := (clause_cells hh2).2.1; have hc1a : (w2.alloc (.cells #[.iface T u] 203)).cell? ⟨P, 1, none⟩ = some bv := cell_keep5 hc1 (.cells #[.iface T u] 203); obtain ⟨g', cap', w3, hr, hown', hgrow, hat, hgl⟩ := run_append_lies (P := Try.prog) (w2.alloc (.cells #[.iface T u] 203)) 199 199 (P + 1) 203 i0 _ 1 16 Try.underlying199 hi hz0 hz1 hz2 rfl (by decide) bv k vs (World.ownsRow.alloc (own_below (unhide HO) hb20) _) ⟨w2.heap.size, 0, none⟩ 1 1 [.iface T u] rfl (cell_one_new w2 _ _) (by simp [Value.oneCell']) (by omega) (by unfold maxLen; omega) (by omega) (by simp; omega) _ rfl; have hr' : Sem.run Try.prog (Builtin.append_ #[199, 199] 199 #[bv, .slice (some ⟨w2.heap.size, 0, none⟩) 1 1]) (w2.alloc (.cells #[.iface T u] 203)) = .ok (.slice (some ⟨g', 0, none⟩) (k + 1) cap') w3 := hr; clear hr; have hn3 := clK_node (unhide HH1) (unhide HO) hb20 hgrow; obtain ⟨_, hs3, _, hf3⟩ := clause_cells hn3; have HST := hide (clK_step hlt (unhide HH1) (unhide HO) (unhide HH3) (unhide HH4) hwP hBr hb20 (Nat.le_trans hbG.size (Nat.le_refl _)) (Nat.le_refl _) hG hown' hgrow hat); clear hn3 hown' hgrow hat hgl hG))
          all_goals go_wp2
          all_goals go_roundw
          all_goals first | exact ⟨k + 1, _, by omega, by go_num, unhide HST⟩ | (simp [intOf]; omega)
        | false =>
          go_wp2
          go_region_with (first
            | (go_at_call 139; refine (unhide H).mono ?_; rintro e w2 ⟨vv, rfl, hG, hb2⟩; obtain rfl := hG.no hw; have hs2 := hb2.size; have hb20 : Below wr.heap.size wr w2 := bstep hbG hb2; have hP2 : P < w2.heap.size := Nat.lt_of_lt_of_le hPr hb20.size; have hh2 := (hb20.block P hPr).trans (unhide HH1); have hc1 := (clause_cells hh2).2.1; have hc1a : (w2.alloc (.cells #[.nilIface] 203)).cell? ⟨P, 1, none⟩ = some bv := cell_keep5 hc1 (.cells #[.nilIface] 203); obtain ⟨g', cap', w3, hr, hown', hgrow, hat, hgl⟩ := run_append_lies (P := Try.prog) (w2.alloc (.cells #[.nilIface] 203)) 199 199 (P + 1) 203 i0 _ 1 16 Try.underlying199 hi hz0 hz1 hz2 rfl (by decide) bv k vs (World.ownsRow.alloc (own_below (unhide HO) hb20) _) ⟨w2.heap.size, 0, none⟩ 1 1 [.nilIface] rfl (cell_one_new w2 _ _) (by simp [Value.oneCell']) (by omega) (by unfold maxLen; omega) (by omega) (by simp; omega) _ rfl; have hr' : Sem.run Try.prog (Builtin.append_ #[199, 199] 199 #[bv, .slice (some ⟨w2.heap.size, 0, none⟩) 1 1]) (w2.alloc (.cells #[.nilIface] 203)) = .ok (.slice (some ⟨g', 0, none⟩) (k + 1) cap') w3 := hr; clear hr; have hn3 := clK_node (unhide HH1) (unhide HO) hb20 hgrow; obtain ⟨_, hs3, _, hf3⟩ := clause_cells hn3; have HST := hide (clK_step hlt (unhide HH1) (unhide HO) (unhide HH3) (unhide HH4) hwP hBr hb20 (Nat.le_trans hbG.size (Nat.le_refl _)) (Nat.le_refl _) hG hown' hgrow hat); clear hn3 hown' hgrow hat hgl hG))
          all_goals go_wp2
          all_goals go_roundw
          all_goals first | exact ⟨k + 1, _, by omega, by go_num, unhide HST⟩ | (simp [intOf]; omega)
      · have e : k = x.g.length := by omega
        subst e
        obtain ⟨ao, cap, rfl, hM⟩ := clK_end hK
        obtain ⟨_, _, _, _, _, _, hBr⟩ := hK
        have HC := hide (checked_any w.heap.size P x o ao cap wr h4 hM)
        clear hM
        go_wp2_with (go_at_call 140; refine (unhide HC).mono ?_; rintro e w5 ⟨rfl, hb5⟩)
        go_ret
        exact ⟨P, rfl, bstep hBr hb5⟩
  · have h5 : 4 < (x.g.length : Int) := by omega
    have hc : ckV x 0 = .pointer none := by unfold ckV clB; simp [h4]
    have HC := hide hc
    go_enter Try.func103, Try.ntmps103
    go_wp2
    go_ret
    exact ⟨0, by rw [unhide HC]; rfl, hb0⟩
end Go.Proofs.Ytpfoaleehdiahaa
