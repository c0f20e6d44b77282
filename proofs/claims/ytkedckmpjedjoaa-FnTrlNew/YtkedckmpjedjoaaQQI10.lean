/- programOf and PrgOk of the program. -/
import Derived.Test.YtkedckmpjedjoaaQQI3QI6QI7QI8QI9
namespace Go.Proofs.Ytkedckmpjedjoaa
open Go.RowKit Go.Shelf
set_option linter.unusedVariables false
set_option linter.unusedSimpArgs false

def PrOut (x : Pg) (w0 w : World) (e : Ending) (w' : World) : Prop := (prgB x = true ∧ ∃ P vc vp, e = .returned (.pointer (some ⟨P, 0, none⟩)) ∧ PrM w0 P x.cs.length x.ps w' vc vp ∧ Below w.heap.size w w') ∨ (prgB x = false ∧ e = .returned (.pointer none) ∧ Below w.heap.size w w')
theorem take_snoc {α : Type} {s : List α} {k : Nat} (h : k < s.length) : s.take k ++ [s[k]] = s.take (k + 1) := (List.take_succ_eq_append_getElem h).symm

set_option maxRecDepth 100000 in
set_option maxHeartbeats 8000000 in
theorem programOf_any (x : Pg) (v0 v1 : Value) (w : World) (hF : FitPg x) (hs : szPg x ≤ 1048576) (hv : PgV w x v0 v1) :
    Calls Try.prog 47 #[.agg #[v0, v1]] w fun e w' => ∃ w0, PrOut x w0 w e w' := by
  unfold szPg at hs
  obtain ⟨⟨xa, xc, rfl, a1, a2, hA⟩, ⟨ya, yc, rfl, b1, b2, hB⟩⟩ := hv
  obtain ⟨hb0, d0, d1⟩ := two_new w (.slice xa x.cs.length xc) (.slice ya x.ps.length yc) 30
  have hcl : x.cs.length ≤ 1048576 := by omega
  have hpl : x.ps.length ≤ 1048576 := by omega
  have HA := hide (fun (W : World) (hW : Below w.heap.size w W) => hA.below hW)
  have HB := hide (fun (W : World) (hW : Below w.heap.size w W) => hB.below hW)
  have HFP := hide (fun (k : Nat) (hk : k < x.ps.length) => (hF.2 _ (List.getElem_mem hk)).1)
  have HK := hide (fun (k : Nat) (hk : k < x.cs.length) (v0 v1 : Value) (W : World) (hv : ClV W x.cs[k] v0 v1) => clauseOf_any x.cs[k] v0 v1 W (hF.1 _ (List.getElem_mem hk)) (Nat.le_trans (totK_mem (List.getElem_mem hk)) (by omega)) hv)
  have HN1 := hide (fun (h : ¬ x.cs.length ≤ 12) => prgB_no (p := x) (fun g => h g.1))
  have HN2 := hide (fun (h : ¬ x.ps.length ≤ 6) => prgB_no (p := x) (fun g => h g.2.1))
  have HN3 := hide (fun (k : Nat) (hk : k < x.cs.length) (h : clB x.cs[k] = false) => prgB_no (p := x) (fun g => by have := g.2.2.1 _ (List.getElem_mem hk); rw [h] at this; cases this))
  have HN4 := hide (fun (k : Nat) (hk : k < x.ps.length) (h : ¬ PcAt x.ps k x.ps[k]) => prgB_no (p := x) (fun g => h (g.2.2.2 k hk)))
  have HY := hide (fun (h1 : x.cs.length ≤ 12) (h2 : x.ps.length ≤ 6) (h3 : ClUp x.cs x.cs.length) (h4 : PcUp x.ps x.ps.length) => prgB_yes (p := x) ⟨h1, h2, fun c hc => by obtain ⟨j, hj, rfl⟩ := List.getElem_of_mem hc; exact h3 j hj hj, fun k hk => h4 k hk hk⟩)
  clear hA hB a1 a2 b1 b2 hs hF
  go_enter Try.func47, Try.ntmps47
  go_wp2
  rw [show w.heap.size + 1 = (w.alloc (.cells #[.slice xa x.cs.length xc, .slice ya x.ps.length yc] 30)).heap.size by simp]
  generalize w.alloc (.cells #[.slice xa x.cs.length xc, .slice ya x.ps.length yc] 30) = w0 at hb0 d0 d1 ⊢
  have hl0 : w.heap.size < w0.heap.size := World.block_lt_of_cell? w0 ⟨_, _, none⟩ d1
  have hM0 : PrM w0 w0.heap.size 0 [] (w0.alloc (.cells #[.slice none 0 0, .slice none 0 0] 82)) (.slice none 0 0) (.slice none 0 0) :=
    ⟨World.alloc_heap_new w0 _, ⟨[], World.ownsRow_nil _ _ _ _⟩, World.ownsRow_nil _ _ _ _, Nat.le_refl _, cell_below _ _⟩
  have HM0 := hide hM0
  clear hM0
  go_loopw [13] (fun i wr => ∃ (k : Nat) (vc vp : Value), k ≤ x.ps.length ∧ i = .int .i64 k ∧ k ≤ 6 ∧ PcUp x.ps k ∧ PrM w0 w0.heap.size 0 (x.ps.take k) wr vc vp) (fun i _ => x.ps.length - (intOf i).toNat)
  case atStart => exact ⟨0, _, _, Nat.zero_le _, rfl, by omega, fun j _ h => absurd h (Nat.not_lt_zero _), unhide HM0⟩
  case round =>
    obtain ⟨k, vc, vp, hk, rfl, hk6, hu, hM⟩ := hrel
    have HU := hide hu
    have HM := hide hM
    have hBr := hM.bl
    clear hu hM HM0
    have hBw := bstep hb0 hBr
    by_cases hlt : k < x.ps.length
    · rcases unhide HB wr hBw with e | ⟨b, off, e, hA⟩
      · rw [e] at hlt; simp at hlt
      subst e
      obtain ⟨u0, u1, u2, g0, g1, g2, hv⟩ := hA k hlt
      obtain ⟨q0, q1, q2⟩ := hv
      subst q0 q1 q2
      have hbl := cell_below wr (.cells #[.string x.ps[k].s, .int .i64 x.ps[k].n, .int .i64 x.ps[k].d] 144)
      have HAP := hide (addPlace_any w0 w0.heap.size 0 (x.ps.take k) x.ps[k] _ vc vp (by rw [List.length_take]; omega) (unhide HFP k hlt) ((unhide HM).below hbl))
      have HTS := hide (take_snoc hlt)
      clear hA
      cases hok : okPl (x.ps.take k) x.ps[k] with
      | false =>
        have HF : Hid (prgB x = false) := by
          show _ = _
          rcases okPl_no (unhide HU) hlt hok with h | h
          · exact unhide HN4 k hlt h
          · exact unhide HN2 (by omega)
        have HAF : Hid (Calls Try.prog 103 #[.pointer (some ⟨w0.heap.size, 0, none⟩), .agg #[.string x.ps[k].s, .int .i64 x.ps[k].n, .int .i64 x.ps[k].d]] (wr.alloc (.cells #[.string x.ps[k].s, .int .i64 x.ps[k].n, .int .i64 x.ps[k].d] 144)) fun e w' => e = .returned (.bool false) ∧ Below (wr.alloc (.cells #[.string x.ps[k].s, .int .i64 x.ps[k].n, .int .i64 x.ps[k].d] 144)).heap.size (wr.alloc (.cells #[.string x.ps[k].s, .int .i64 x.ps[k].n, .int .i64 x.ps[k].d] 144)) w') := (unhide HAP).mono fun e w' h => by
          rcases h with ⟨h, _⟩ | ⟨_, h1, h2⟩
          · rw [hok] at h; cases h
          · exact ⟨h1, h2⟩
        clear HAP hok HTS HU HM HK HA HB HFP HN1 HN2 HN3 HN4 HY
        generalize x.ps[k] = y at g0 g1 g2 HAF hbl
        go_wp2_with (go_at_call 103; refine (unhide HAF).mono ?_; rintro e w3 ⟨rfl, hb3⟩)
        go_ret
        exact ⟨w0, .inr ⟨unhide HF, rfl, bstep (bstep hBw hbl) hb3⟩⟩
      | true =>
        obtain ⟨hpa, hk7⟩ := okPl_yes (unhide HU) hlt hok
        have HPU := hide (pcUp_succ (unhide HU) hlt hpa)
        have HAT : Hid (Calls Try.prog 103 #[.pointer (some ⟨w0.heap.size, 0, none⟩), .agg #[.string x.ps[k].s, .int .i64 x.ps[k].n, .int .i64 x.ps[k].d]] (wr.alloc (.cells #[.string x.ps[k].s, .int .i64 x.ps[k].n, .int .i64 x.ps[k].d] 144)) fun e w' => e = .returned (.bool true) ∧ ∃ vp', PrM w0 w0.heap.size 0 (x.ps.take (k + 1)) w' vc vp') := (unhide HAP).mono fun e w' h => by
          rcases h with ⟨_, h1, vp', h2⟩ | ⟨h, _⟩
          · exact ⟨h1, vp', (unhide HTS) ▸ h2⟩
          · rw [hok] at h; cases h
        clear HAP hok hpa HTS HU HM
        have HLT := hide hlt
        generalize x.ps[k] = y at g0 g1 g2 HAT hbl
        go_wp2_with (go_at_call 103; refine (unhide HAT).mono ?_; rintro e w3 ⟨rfl, vp', hM3⟩)
        go_roundw
        case rel => exact ⟨k + 1, vc, vp', by omega, by go_num, by omega, unhide HPU, hM3⟩
        case measure => simp [intOf]; omega
    · have e : k = x.ps.length := by omega
      subst e
      have HPS := hide (unhide HU)
      have hM2 := unhide HM
      rw [List.take_length] at hM2
      have HM2 := hide hM2
      have d0' := (hBr.cell (p := ⟨w.heap.size, 0, none⟩) hl0).trans d0
      clear hM2 HM HU HB HFP HN2 HN4 hlt hk d0 d1
      have hPP : w.heap.size < w0.heap.size := hl0
      go_wp2
      generalize wr = wm at *
      go_loopw [25] (fun i wr => ∃ (k : Nat) (vc vp : Value), k ≤ x.cs.length ∧ i = .int .i64 k ∧ k ≤ 12 ∧ ClUp x.cs k ∧ PrM w0 w0.heap.size k x.ps wr vc vp) (fun i _ => x.cs.length - (intOf i).toNat)
      case atStart => exact ⟨0, _, _, Nat.zero_le _, rfl, by omega, fun j _ h => absurd h (Nat.not_lt_zero _), unhide HM2⟩
      case round =>
        obtain ⟨k, vc', vp', hk, rfl, hk12, hu, hM⟩ := hrel
        have HU := hide hu
        have HM := hide hM
        have hBr2 := hM.bl
        clear hu hM HM2
        have hBw2 := bstep hb0 hBr2
        by_cases hlt : k < x.cs.length
        · rcases unhide HA wr hBw2 with e | ⟨b, off, e, hA⟩
          · rw [e] at hlt; simp at hlt
          subst e
          obtain ⟨v0, v1, g0, g1, hv⟩ := hA k hlt
          obtain ⟨a0, n0, c0, a1, n1, c1, ee0, ee1⟩ : ∃ a0 n0 c0 a1 n1 c1, v0 = .slice a0 n0 c0 ∧ v1 = .slice a1 n1 c1 := by
            obtain ⟨⟨p1, p2, p3, _⟩, ⟨q1, q2, q3, _⟩⟩ := hv
            exact ⟨_, _, _, _, _, _, p3, q3⟩
          subst ee0 ee1
          have hbl := cell_below wr (.cells #[.slice a0 n0 c0, .slice a1 n1 c1] 142)
          obtain ⟨y, hy⟩ : ∃ y, y = x.cs[k]'hlt := ⟨_, rfl⟩
          have hco := unhide HK k hlt (.slice a0 n0 c0) (.slice a1 n1 c1) (wr.alloc (.cells #[.slice a0 n0 c0, .slice a1 n1 c1] 142)) (hv.below hbl)
          have hn3 := unhide HN3 k hlt
          have hcu := fun (h : clB (x.cs[k]'hlt) = true) => clUp_succ (unhide HU) hlt h
          rw [← hy] at hco hn3 hcu
          have HCO := hide hco
          have HN3Y := hide hn3
          have HCU := hide hcu
          have hkl : k < x.cs.length := hlt
          clear hco hn3 hcu hy
          clear hA hv
          go_wp2_with fail
          refine (unhide HCO).mono ?_
          rintro e w3 ⟨q, rfl, hb3⟩
          have hM3 := ((unhide HM).below hbl).below hb3
          cases hcb : clB y with
          | false =>
            have hF : prgB x = false := unhide HN3Y hcb
            have HF := hide hF
            have hck : ckV y q = .pointer none := by simp [ckV, hcb]
            rw [hck]
            have hB3 := bstep (bstep hBw2 hbl) hb3
            clear hF hcb hck HCO HK HN1 HN3 HN3Y HCU HY HPS HM HU hM3
            go_wp2_with (go_at_call 104; refine (addClause_nil w0.heap.size w3).mono ?_; rintro e w4 ⟨rfl, rfl⟩)
            go_ret
            exact ⟨w0, .inr ⟨unhide HF, rfl, hB3⟩⟩
          | true =>
            have hck : ckV y q = .pointer (some ⟨q, 0, none⟩) := by simp [ckV, hcb]
            rw [hck]
            have HCL := hide (unhide HCU hcb)
            by_cases hk11 : k < 12
            · have HAC := hide (addClause_yes w0 w0.heap.size q k x.ps w3 vc' vp' hk11 hM3)
              clear hcb hck HCO HN3Y HCU HM HU hM3
              go_wp2_with (go_at_call 104; refine (unhide HAC).mono ?_; rintro e w4 ⟨rfl, vc4, hM4⟩)
              go_roundw
              case rel => exact ⟨k + 1, vc4, vp', by omega, by go_num, by omega, unhide HCL, hM4⟩
              case measure => simp [intOf]; omega
            · have e12 : k = 12 := by omega
              subst e12
              have hF : prgB x = false := unhide HN1 (by omega)
              have HF := hide hF
              have HAC := hide (addClause_full w0 w0.heap.size q x.ps w3 vc' vp' hM3)
              have hB3 := bstep (bstep hBw2 hbl) hb3
              clear hF hcb hck HCO HK HN1 HN3 HN3Y HCU HY HPS HM HU hM3
              go_wp2_with (go_at_call 104; refine (unhide HAC).mono ?_; rintro e w4 ⟨rfl, rfl⟩)
              go_ret
              exact ⟨w0, .inr ⟨unhide HF, rfl, hB3⟩⟩
        · have e : k = x.cs.length := by omega
          subst e
          have hT : prgB x = true := unhide HY (by omega) (by omega) (unhide HU) (unhide HPS)
          have HTT := hide hT
          have HMM := hide (unhide HM)
          clear hT HY HPS HU HM HK HN1 HN3 HA
          go_wp2
          go_ret
          exact ⟨w0, .inl ⟨unhide HTT, _, _, _, rfl, unhide HMM, hBw2⟩⟩
end Go.Proofs.Ytkedckmpjedjoaa
