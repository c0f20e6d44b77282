import Derived.Test.YtkedckmpjedjoaaQQX1SN1SN2QJ1QJ5
import Derived.Test.YtkedckmpjedjoaaQQP4
/- programOf of the program, and all of its clauses. -/
namespace Go.Proofs.Ytkedckmpjedjoaa
open Go.RowKit Go.Shelf
set_option linter.unusedVariables false
set_option linter.unusedSimpArgs false

def PrAll (x : Pg) (w0 w : World) (e : Ending) (w' : World) : Prop := (prgB x = true ∧ ∃ P vc vp, e = .returned (.pointer (some ⟨P, 0, none⟩)) ∧ PrN w0 P x.cs x.ps w' vc vp ∧ w.heap.size ≤ P ∧ Below w.heap.size w w') ∨ (prgB x = false ∧ e = .returned (.pointer none) ∧ Below w.heap.size w w')

set_option maxRecDepth 100000 in
set_option maxHeartbeats 8000000 in
theorem programOf_all (x : Pg) (v0 v1 : Value) (w : World) (hF : FitPg x) (hs : szPg x ≤ 1048576) (hv : PgV w x v0 v1) :
    Calls Try.prog 47 #[.agg #[v0, v1]] w fun e w' => ∃ w0, PrAll x w0 w e w' := by
  unfold szPg at hs
  obtain ⟨⟨xa, xc, rfl, a1, a2, hA⟩, ⟨ya, yc, rfl, b1, b2, hB⟩⟩ := hv
  obtain ⟨hb0, d0, d1⟩ := two_new w (.slice xa x.cs.length xc) (.slice ya x.ps.length yc) 30
  have hcl : x.cs.length ≤ 1048576 := by omega
  have hpl : x.ps.length ≤ 1048576 := by omega
  have HA := hide (fun (W : World) (hW : Below w.heap.size w W) => hA.below hW)
  have HB := hide (fun (W : World) (hW : Below w.heap.size w W) => hB.below hW)
  have HFP := hide (fun (k : Nat) (hk : k < x.ps.length) => (hF.2 _ (List.getElem_mem hk)).1)
  have HK := hide (fun (k : Nat) (hk : k < x.cs.length) (v0 v1 : Value) (W : World) (hv : ClV W x.cs[k] v0 v1) => clauseOf_all x.cs[k] v0 v1 W (hF.1 _ (List.getElem_mem hk)) (Nat.le_trans (totK_mem (List.getElem_mem hk)) (by omega)) hv)
  have HN1 := hide (fun (h : ¬ x.cs.length ≤ 12) => prgB_no (p := x) (fun g => h g.1))
  have HN2 := hide (fun (h : ¬ x.ps.length ≤ 6) => prgB_no (p := x) (fun g => h g.2.1))
  have HN3 := hide (fun (k : Nat) (hk : k < x.cs.length) (h : clB x.cs[k] = false) => prgB_no (p := x) (fun g => by have := g.2.2.1 _ (List.getElem_mem hk); rw [h] at this; cases this))
  have HN4 := hide (fun (k : Nat) (hk : k < x.ps.length) (h : ¬ PcAt x.ps k x.ps[k]) => prgB_no (p := x) (fun g => h (g.2.2.2 k hk)))
  have HY := hide (fun (h1 : x.cs.length ≤ 12) (h2 : x.ps.length ≤ 6) (h3 : ClUp x.cs x.cs.length) (h4 : PcUp x.ps x.ps.length) => prgB_yes (p := x) ⟨h1, h2, fun c hc => by obtain ⟨j, hj, rfl⟩ := List.getElem_of_mem hc; exact h3 j hj hj, fun k hk => h4 k hk hk⟩)
  clear hA hB a1 a2 b1 b2 hs hF
  go_enter Try.func47, Try.ntmps47
  go_wp2
  rw [show w.heap.size + 1 = (w.alloc (.cells #[.slice xa x.cs.length xc, .slice ya x.ps.length yc] 30)).heap.size by simp]
  generalize w.alloc (.cells #[.slice xa x.cs.length xc, .slice ya x.ps.length yc] 30) = w0 at hb0 d0 d1 ⊢
  have hl0 : w.heap.size < w0.heap.size := World.block_lt_of_cell? w0 ⟨_, _, none⟩ d1
  have hM0 : PrM w0 w0.heap.size 0 [] (w0.alloc (.cells #[.slice none 0 0, .slice none 0 0] 82)) (.slice none 0 0) (.slice none 0 0) :=
    ⟨World.alloc_heap_new w0 _, ⟨[], World.ownsRow_nil _ _ _ _⟩, World.ownsRow_nil _ _ _ _, Nat.le_refl _, cell_below _ _⟩
  have HM0 := hide hM0
  clear hM0
  go_loopw [13] (fun i wr => ∃ (k : Nat) (vc vp : Value), k ≤ x.ps.length ∧ i = .int .i64 k ∧ k ≤ 6 ∧ PcUp x.ps k ∧ PrM w0 w0.heap.size 0 (x.ps.take k) wr vc vp) (fun i _ => x.ps.length - (intOf i).toNat)
  case atStart => exact ⟨0, _, _, Nat.zero_le _, rfl, by omega, fun j _ h => absurd h (Nat.not_lt_zero _), unhide HM0⟩
  case round =>
    obtain ⟨k, vc, vp, hk, rfl, hk6, hu, hM⟩ := hrel
    have HU := hide hu
    have HM := hide hM
    have hBr := hM.bl
    clear hu hM HM0
    have hBw := bstep hb0 hBr
    by_cases hlt : k < x.ps.length
    · rcases unhide HB wr hBw with e | ⟨b, off, e, hA⟩
      · rw [e] at hlt; simp at hlt
      subst e
      obtain ⟨u0, u1, u2, g0, g1, g2, hv⟩ := hA k hlt
      obtain ⟨q0, q1, q2⟩ := hv
      subst q0 q1 q2
      have hbl := cell_below wr (.cells #[.string x.ps[k].s, .int .i64 x.ps[k].n, .int .i64 x.ps[k].d] 144)
      have HAP := hide (addPlace_any w0 w0.heap.size 0 (x.ps.take k) x.ps[k] _ vc vp (by rw [List.length_take]; omega) (unhide HFP k hlt) ((unhide HM).below hbl))
      have HTS := hide (take_snoc hlt)
      clear hA
      cases hok : okPl (x.ps.take k) x.ps[k] with
      | false =>
        have HF : Hid (prgB x = false) := by
          show _ = _
          rcases okPl_no (unhide HU) hlt hok with h | h
          · exact unhide HN4 k hlt h
          · exact unhide HN2 (by omega)
        have HAF : Hid (Calls Try.prog 103 #[.pointer (some ⟨w0.heap.size, 0, none⟩), .agg #[.string x.ps[k].s, .int .i64 x.ps[k].n, .int .i64 x.ps[k].d]] (wr.alloc (.cells #[.string x.ps[k].s, .int .i64 x.ps[k].n, .int .i64 x.ps[k].d] 144)) fun e w' => e = .returned (.bool false) ∧ Below (wr.alloc (.cells #[.string x.ps[k].s, .int .i64 x.ps[k].n, .int .i64 x.ps[k].d] 144)).heap.size (wr.alloc (.cells #[.string x.ps[k].s, .int .i64 x.ps[k].n, .int .i64 x.ps[k].d] 144)) w') := (unhide HAP).mono fun e w' h => by
          rcases h with ⟨h, _⟩ | ⟨_, h1, h2⟩
          · rw [hok] at h; cases h
          · exact ⟨h1, h2⟩
        clear HAP hok HTS HU HM HK HA HB HFP HN1 HN2 HN3 HN4 HY
        generalize x.ps[k] = y at g0 g1 g2 HAF hbl
        go_wp2_with (go_at_call 103; refine (unhide HAF).mono ?_; rintro e w3 ⟨rfl, hb3⟩)
        go_ret
        exact ⟨w0, .inr ⟨unhide HF, rfl, bstep (bstep hBw hbl) hb3⟩⟩
      | true =>
        obtain ⟨hpa, hk7⟩ := okPl_yes (unhide HU) hlt hok
        have HPU := hide (pcUp_succ (unhide HU) hlt hpa)
        have HAT : Hid (Calls Try.prog 103 #[.pointer (some ⟨w0.heap.size, 0, none⟩), .agg #[.string x.ps[k].s, .int .i64 x.ps[k].n, .int .i64 x.ps[k].d]] (wr.alloc (.cells #[.string x.ps[k].s, .int .i64 x.ps[k].n, .int .i64 x.ps[k].d] 144)) fun e w' => e = .returned (.bool true) ∧ ∃ vp', PrM w0 w0.heap.size 0 (x.ps.take (k + 1)) w' vc vp') := (unhide HAP).mono fun e w' h => by
          rcases h with ⟨_, h1, vp', h2⟩ | ⟨h, _⟩
          · exact ⟨h1, vp', (unhide HTS) ▸ h2⟩
          · rw [hok] at h; cases h
        clear HAP hok hpa HTS HU HM
        have HLT := hide hlt
        generalize x.ps[k] = y at g0 g1 g2 HAT hbl
        go_wp2_with (go_at_call 103; refine (unhide HAT).mono ?_; rintro e w3 ⟨rfl, vp', hM3⟩)
        go_roundw
        case rel => exact ⟨k + 1, vc, vp', by omega, by go_num, by omega, unhide HPU, hM3⟩
        case measure => simp [intOf]; omega
    · have e : k = x.ps.length := by omega
      subst e
      have HPS := hide (unhide HU)
      have hM2 := unhide HM
      rw [List.take_length] at hM2
      have HM2 := hide hM2
      have d0' := (hBr.cell (p := ⟨w.heap.size, 0, none⟩) hl0).trans d0
      clear hM2 HM HU HB HFP HN2 HN4 hlt hk d0 d1
      have hPP : w.heap.size < w0.heap.size := hl0
      go_wp2
      generalize wr = wm at *
      go_loopw [25] (fun i wr => ∃ (k : Nat) (vc vp : Value), k ≤ x.cs.length ∧ i = .int .i64 k ∧ k ≤ 12 ∧ ClUp x.cs k ∧ PrN w0 w0.heap.size (x.cs.take k) x.ps wr vc vp) (fun i _ => x.cs.length - (intOf i).toNat)
      case atStart => exact ⟨0, _, _, Nat.zero_le _, rfl, by omega, fun j _ h => absurd h (Nat.not_lt_zero _), prN_none (unhide HM2)⟩
      case round =>
        obtain ⟨k, vc', vp', hk, rfl, hk12, hu, hM⟩ := hrel
        have HU := hide hu
        have HM := hide hM
        have hBr2 := hM.1.bl
        have hwz := hM.1.lo
        clear hu hM HM2
        have hBw2 := bstep hb0 hBr2
        by_cases hlt : k < x.cs.length
        · rcases unhide HA wr hBw2 with e | ⟨b, off, e, hA⟩
          · rw [e] at hlt; simp at hlt
          subst e
          obtain ⟨v0, v1, g0, g1, hv⟩ := hA k hlt
          obtain ⟨a0, n0, c0, a1, n1, c1, ee0, ee1⟩ : ∃ a0 n0 c0 a1 n1 c1, v0 = .slice a0 n0 c0 ∧ v1 = .slice a1 n1 c1 := by
            obtain ⟨⟨p1, p2, p3, _⟩, ⟨q1, q2, q3, _⟩⟩ := hv
            exact ⟨_, _, _, _, _, _, p3, q3⟩
          subst ee0 ee1
          have hbl := cell_below wr (.cells #[.slice a0 n0 c0, .slice a1 n1 c1] 142)
          obtain ⟨y, hy⟩ : ∃ y, y = x.cs[k]'hlt := ⟨_, rfl⟩
          have hco := unhide HK k hlt (.slice a0 n0 c0) (.slice a1 n1 c1) (wr.alloc (.cells #[.slice a0 n0 c0, .slice a1 n1 c1] 142)) (hv.below hbl)
          have hn3 := unhide HN3 k hlt
          have hcu := fun (h : clB (x.cs[k]'hlt) = true) => clUp_succ (unhide HU) hlt h
          rw [← hy] at hco hn3 hcu
          have HCO := hide hco
          have HN3Y := hide hn3
          have HCU := hide hcu
          have hkl : k < x.cs.length := hlt
          have HYY := hide hy
          clear hco hn3 hcu hy
          clear hA hv
          go_wp2_with fail
          refine (unhide HCO).mono ?_
          rintro e w3 ⟨q, rfl, hall, hb3⟩
          have HALL := hide hall
          clear hall
          have hM3 := ((unhide HM).below hbl).below hb3
          cases hcb : clB y with
          | false =>
            have hF : prgB x = false := unhide HN3Y hcb
            have HF := hide hF
            have hck : ckV y q = .pointer none := by simp [ckV, hcb]
            rw [hck]
            have hB3 := bstep (bstep hBw2 hbl) hb3
            clear hF hcb hck HCO HK HN1 HN3 HN3Y HCU HY HPS HM HU hM3
            go_wp2_with (go_at_call 104; refine (addClause_nil w0.heap.size w3).mono ?_; rintro e w4 ⟨rfl, rfl⟩)
            go_ret
            exact ⟨w0, .inr ⟨unhide HF, rfl, hB3⟩⟩
          | true =>
            have hck : ckV y q = .pointer (some ⟨q, 0, none⟩) := by simp [ckV, hcb]
            rw [hck]
            have HCL := hide (unhide HCU hcb)
            by_cases hk11 : k < 12
            · have hall3 := unhide HALL hcb
              have hTS : x.cs.take k ++ [y] = x.cs.take (k + 1) := by rw [unhide HYY]; exact take_snoc hkl
              have hvl : ∀ g, vc'.ownBlock = some g → g < (wr.alloc (.cells #[.slice a0 n0 c0, .slice a1 n1 c1] 142)).heap.size ∨ w3.heap.size ≤ g := fun g e => by
                obtain ⟨_, xs, hx, _⟩ := unhide HM
                have := (hx.lt g e).2
                left; simp; omega
              have hPl : w0.heap.size < (wr.alloc (.cells #[.slice a0 n0 c0, .slice a1 n1 c1] 142)).heap.size := by
                have := (unhide HM).1.lt
                simp; omega
              have hAC := addClause_all w0 w0.heap.size q _ _ (x.cs.take k) y x.ps w3 vc' vp' (by rw [List.length_take]; omega) hM3 hPl (Nat.le_refl _) hvl hall3
              rw [hTS] at hAC
              have HAC := hide hAC
              clear hAC hall3 hTS hvl hPl
              clear hcb hck HCO HN3Y HCU HM HU hM3
              go_wp2_with (go_at_call 104; refine (unhide HAC).mono ?_; rintro e w4 ⟨rfl, vc4, hM4⟩)
              go_roundw
              case rel => exact ⟨k + 1, vc4, vp', by omega, by go_num, by omega, unhide HCL, hM4⟩
              case measure => simp [intOf]; omega
            · have e12 : k = 12 := by omega
              subst e12
              have hF : prgB x = false := unhide HN1 (by omega)
              have HF := hide hF
              have HAC := hide (addClause_full w0 w0.heap.size q x.ps w3 vc' vp' (by have := hM3.1; rw [List.length_take, Nat.min_eq_left hk] at this; exact this))
              have hB3 := bstep (bstep hBw2 hbl) hb3
              clear hF hcb hck HCO HK HN1 HN3 HN3Y HCU HY HPS HM HU hM3
              go_wp2_with (go_at_call 104; refine (unhide HAC).mono ?_; rintro e w4 ⟨rfl, rfl⟩)
              go_ret
              exact ⟨w0, .inr ⟨unhide HF, rfl, hB3⟩⟩
        · have e : k = x.cs.length := by omega
          subst e
          have hT : prgB x = true := unhide HY (by omega) (by omega) (unhide HU) (unhide HPS)
          have HTT := hide hT
          have hMM := unhide HM
          rw [List.take_length] at hMM
          have HMM := hide hMM
          clear hMM
          clear hT HY HPS HU HM HK HN1 HN3 HA
          go_wp2
          go_ret
          exact ⟨w0, .inl ⟨unhide HTT, _, _, _, rfl, unhide HMM, hb0.size, hBw2⟩⟩
end Go.Proofs.Ytkedckmpjedjoaa

/- What an answer owns: each list in blocks of its own, one region behind the other. -/
namespace Go.Proofs.Ytkedckmpjedjoaa
open Go.RowKit Go.Shelf
set_option linter.unusedVariables false
set_option linter.unusedSimpArgs false

/-- The blocks from lo to hi are as they were. -/
def Agree (lo hi : Nat) (w w' : World) : Prop := ∀ b, lo ≤ b → b < hi → w'.heap[b]? = w.heap[b]?
theorem Agree.sub {lo hi lo' hi' : Nat} {w w' : World} (h : Agree lo hi w w') (hl : lo ≤ lo') (hh : hi' ≤ hi) : Agree lo' hi' w w' := fun b h1 h2 => h b (Nat.le_trans hl h1) (Nat.lt_of_lt_of_le h2 hh)
theorem Agree.below {lo hi : Nat} {w w' : World} (hb : Below w.heap.size w w') (hh : hi ≤ w.heap.size) : Agree lo hi w w' := fun b _ h2 => hb.block b (Nat.lt_of_lt_of_le h2 hh)
theorem Agree.set {lo hi : Nat} {w : World} {a : Addr} {v : Value} (h : a.block < lo ∨ hi ≤ a.block) : Agree lo hi w (w.setCell a v) := fun b h1 h2 => Below.heap_setCell _ _ _ _ (by omega)
theorem Agree.trans {lo hi : Nat} {a b c : World} (h : Agree lo hi a b) (k : Agree lo hi b c) : Agree lo hi a c := fun x h1 h2 => (k x h1 h2).trans (h x h1 h2)
theorem Agree.refl (lo hi : Nat) (w : World) : Agree lo hi w w := fun _ _ _ => rfl

def Under (hi : Nat) (v : Value) : Prop := ∀ b, v.ownBlock = some b → b < hi
/-- Places that are owned. -/
def SegC (lo hi : Nat) (w : World) (v : Value) (t : List C) : Prop := OwnC w lo v t ∧ Under hi v
theorem SegC.kept {lo hi : Nat} {w w' : World} {v : Value} {t : List C} (h : SegC lo hi w v t) (hk : Agree lo hi w w') : SegC lo hi w' v t := ⟨own_block h.1 (fun b e => hk b (h.1.lt b e).1 (h.2 b e)), h.2⟩
theorem SegC.wide {lo hi lo' hi' : Nat} {w : World} {v : Value} {t : List C} (h : SegC lo hi w v t) (hl : lo' ≤ lo) (hh : hi ≤ hi') : SegC lo' hi' w v t := ⟨own_lo h.1 (fun b e => Nat.le_trans hl (h.1.lt b e).1), fun b e => Nat.lt_of_lt_of_le (h.2 b e) hh⟩
theorem SegC.nil (lo hi : Nat) (w : World) : SegC lo hi w (.slice none 0 0) [] := ⟨World.ownsRow_nil _ _ _ _, fun b e => by simp [Value.ownBlock] at e⟩
theorem segC_of {w w' : World} {base : Nat} {v : Value} {t : List C} (h : OwnC w' base v t) : SegC base w'.heap.size w' v t := ⟨h, fun b e => (h.lt b e).2⟩
theorem SegC.slC {lo hi : Nat} {w : World} {v : Value} {t : List C} (h : SegC lo hi w v t) : SlC w v t := by
  obtain ⟨ao, cap, e, hR⟩ := h.1.shape
  refine ⟨ao, cap, e, ?_, ?_, hR⟩
  · rcases h.1.2 with ⟨e1, h2⟩ | ⟨g, cap', cur, e1, _, _, h3, h4, _⟩
    · omega
    · rw [e] at e1; cases e1; exact h3
  · rcases h.1.2 with ⟨e1, h2⟩ | ⟨g, cap', cur, e1, _, _, h3, h4, _⟩
    · rw [e] at e1; injection e1 with _ _ e3; unfold maxLen; omega
    · rw [e] at e1; cases e1; exact h4

/-- A list that is owned: its own block, and each element's region behind that of the one ahead. -/
def SegL (lo hi : Nat) (w : World) (T sz : Nat) (v : Value) (n : Nat) (E : Nat → Nat → Nat → World → List Value → Prop) : Prop :=
  ∃ (xs : List Value) (L R : Nat → Nat), w.ownsRow lo T sz v n xs ∧ Under hi v ∧ ∀ i, i < n → lo ≤ L i ∧ L i ≤ R i ∧ R i ≤ hi ∧ (∀ j, j < i → R j ≤ L i) ∧ (∀ g, v.ownBlock = some g → g < L i ∨ R i ≤ g) ∧ E i (L i) (R i) w ((xs.drop (i * sz)).take sz)
def Keeps (E : Nat → Nat → Nat → World → List Value → Prop) : Prop := ∀ i l r w w' us, E i l r w us → Agree l r w w' → E i l r w' us
theorem SegL.kept {lo hi : Nat} {w w' : World} {T sz : Nat} {v : Value} {n : Nat} {E : Nat → Nat → Nat → World → List Value → Prop} (h : SegL lo hi w T sz v n E) (hE : Keeps E) (hk : Agree lo hi w w') : SegL lo hi w' T sz v n E := by
  obtain ⟨xs, L, R, hx, hv, he⟩ := h
  refine ⟨xs, L, R, own_block hx (fun b e => hk b (hx.lt b e).1 (hv b e)), hv, fun i hi => ?_⟩
  obtain ⟨h1, h2, h3, h4, h5, h6⟩ := he i hi
  exact ⟨h1, h2, h3, h4, h5, hE _ _ _ _ _ _ h6 (hk.sub h1 h3)⟩
theorem SegL.wide {lo hi lo' hi' : Nat} {w : World} {T sz : Nat} {v : Value} {n : Nat} {E : Nat → Nat → Nat → World → List Value → Prop} (h : SegL lo hi w T sz v n E) (hl : lo' ≤ lo) (hh : hi ≤ hi') : SegL lo' hi' w T sz v n E := by
  obtain ⟨xs, L, R, hx, hv, he⟩ := h
  refine ⟨xs, L, R, own_lo hx (fun b e => Nat.le_trans hl (hx.lt b e).1), fun b e => Nat.lt_of_lt_of_le (hv b e) hh, fun i hi => ?_⟩
  obtain ⟨h1, h2, h3, h4, h5, h6⟩ := he i hi
  exact ⟨Nat.le_trans hl h1, h2, Nat.le_trans h3 hh, h4, h5, h6⟩
theorem SegL.empty (lo hi : Nat) (w : World) (T sz : Nat) (E : Nat → Nat → Nat → World → List Value → Prop) : SegL lo hi w T sz (.slice none 0 0) 0 E :=
  ⟨[], fun _ => 0, fun _ => 0, World.ownsRow_nil _ _ _ _, fun b e => by simp [Value.ownBlock] at e, fun i hi => absurd hi (Nat.not_lt_zero _)⟩
theorem SegL.shape {lo hi : Nat} {w : World} {T sz : Nat} {v : Value} {n : Nat} {E : Nat → Nat → Nat → World → List Value → Prop} (h : SegL lo hi w T sz v n E) : ∃ ao cap, v = .slice ao n cap ∧ n ≤ cap ∧ cap ≤ maxLen := by
  obtain ⟨xs, L, R, hx, hv, he⟩ := h
  rcases hx.2 with ⟨e1, h2⟩ | ⟨g, cap', cur, e1, _, _, h3, h4, _⟩
  · exact ⟨none, 0, by rw [e1, h2], by omega, by unfold maxLen; omega⟩
  · exact ⟨_, cap', e1, h3, h4⟩

/-- One element more: what was made in between lies in a region of its own. -/
theorem SegL.push {lo : Nat} {wr w2 : World} {T sz : Nat} {v : Value} {n : Nat} {E : Nat → Nat → Nat → World → List Value → Prop} (hE : Keeps E) (h : SegL lo wr.heap.size wr T sz v n E) (hlo : lo ≤ wr.heap.size) (hb : Below wr.heap.size wr w2)
    {l r : Nat} (hl : wr.heap.size ≤ l) (hlr : l ≤ r) (hr : r ≤ w2.heap.size) {us : List Value} (hn : E n l r w2 us) (hus : us.length = sz) (h1 : ∀ u ∈ us, u.oneCell' = true)
    {t : TypeId} {i : TypeInfo} {z : Value} {bytes : Nat} (ht : Try.prog.underlying t = some (.slice T)) (hi : Try.prog.info? T = some i) (hz0 : i.zero = some z) (hz1 : i.size = sz) (hz2 : i.bytes = bytes) (hzs : z.cells.size = sz) (hsz : 0 < sz) (hby : bytes ≤ 1000) (hnl : n ≤ 1000000) :
    ∃ g cap w3, (Builtin.append_ #[t, t] t #[v, .slice (some ⟨w2.heap.size, 0, none⟩) 1 1]).run Try.prog (w2.alloc (.cells us.toArray T)) = .ok (.slice (some ⟨g, 0, none⟩) (n + 1) cap) w3 ∧
      SegL lo w3.heap.size w3 T sz (.slice (some ⟨g, 0, none⟩) (n + 1) cap) (n + 1) E ∧ (w2.alloc (.cells us.toArray T)).grownBy w3 v.ownBlock ∧ (∀ g, v.ownBlock = some g → lo ≤ g) := by
  obtain ⟨xs, L, R, hx, hv, he⟩ := h
  have hnews : ∀ (j : Nat) (u : Value), us[j]? = some u → (w2.alloc (.cells us.toArray T)).cell? ((⟨w2.heap.size, 0, none⟩ : Addr).add j) = some u := fun j u hj => by
    have e : (⟨w2.heap.size, 0, none⟩ : Addr).add j = ⟨w2.heap.size, j, none⟩ := by cases j <;> simp [Addr.add]
    rw [e, World.cell?_alloc_at _ _ _ _ rfl]
    simpa using hj
  have hs2 := hb.size
  obtain ⟨g, cap, w3, hrun, hown, hgrow, hat, hgl⟩ := run_append_lies (P := Try.prog) (w2.alloc (.cells us.toArray T)) t t lo T i z sz bytes ht hi hz0 hz1 hz2 hzs hsz v n xs (World.ownsRow.alloc (own_below hx hb) _) ⟨w2.heap.size, 0, none⟩ 1 1 us (by omega) hnews h1 (by omega) (by unfold maxLen; omega) (Nat.le_trans (Nat.mul_le_mul (show n + 1 ≤ 1000001 by omega) hby) (by omega)) (by simp; omega) _ rfl
  have hsa : (w2.alloc (.cells us.toArray T)).heap.size = w2.heap.size + 1 := by simp
  have hs3 := hgrow.size
  have hxl : xs.length = n * sz := hx.1
  have hvl : ∀ g, v.ownBlock = some g → lo ≤ g ∧ g < wr.heap.size := fun g e => ⟨(hx.lt g e).1, hv g e⟩
  have key : ∀ b, b < w2.heap.size → v.ownBlock ≠ some b → w3.heap[b]? = w2.heap[b]? := fun b hb1 hb2 => by
    rw [hgrow.block b (by omega) (fun e => hb2 e.symm)]
    exact Below.heap_alloc _ _ _ hb1
  have hnew : ∀ l r, r ≤ w2.heap.size → (∀ g, v.ownBlock = some g → g < l ∨ r ≤ g) → ∀ k, (Value.slice (some ⟨g, 0, none⟩) (n + 1) cap).ownBlock = some k → k < l ∨ r ≤ k := fun l r hr hv k e => by
    have : g = k := by simpa [Value.ownBlock] using e
    subst this
    rcases hat with h | h
    · exact hv _ h
    · right; omega
  refine ⟨g, cap, w3, hrun, ⟨xs ++ us, fun k => if k < n then L k else l, fun k => if k < n then R k else r, hown, fun b e => (hown.lt b e).2, fun k hk => ?_⟩, hgrow, fun g e => (hvl g e).1⟩
  by_cases hkn : k < n
  · obtain ⟨a1, a2, a3, a4, a5, a6⟩ := he k hkn
    have hd : ((xs ++ us).drop (k * sz)).take sz = (xs.drop (k * sz)).take sz := by
      have h3 : k * sz + sz ≤ xs.length := by
        rw [hxl, ← Nat.succ_mul]
        exact Nat.mul_le_mul_right _ hkn
      rw [List.drop_append_of_le_length (by omega), List.take_append_of_le_length (by rw [List.length_drop]; omega)]
    simp only [if_pos hkn]
    refine ⟨a1, a2, by omega, fun j hj => ?_, hnew _ _ (by omega) a5, ?_⟩
    · rw [if_pos (by omega)]; exact a4 j hj
    · rw [hd]
      refine hE _ _ _ _ _ _ a6 (fun b b1 b2 => ?_)
      rw [key b (by omega) (fun e => by rcases a5 b e with h | h <;> omega)]
      exact hb.block b (by omega)
  · obtain rfl : k = n := by omega
    have hd : ((xs ++ us).drop (k * sz)).take sz = us := by
      rw [← hxl, List.drop_left, List.take_of_length_le (by omega)]
    simp only [if_neg (Nat.lt_irrefl k)]
    refine ⟨by omega, hlr, by omega, fun j hj => ?_, hnew _ _ hr (fun g e => by have := hvl g e; left; omega), ?_⟩
    · rw [if_pos hj]; have := he j hj; omega
    · rw [hd]
      exact hE _ _ _ _ _ _ hn (fun b b1 b2 => key b (by omega) (fun e => by have := hvl b e; omega))

/-- A goal that is owned. -/
def SegG (lo hi : Nat) (w : World) (x : Gl) (v0 v1 v2 v3 : Value) : Prop := v0 = .int .i64 x.k ∧ ∃ m1 m2, lo ≤ m1 ∧ m1 ≤ m2 ∧ m2 ≤ hi ∧ SegC lo m1 w v1 x.a ∧ SegC m1 m2 w v2 x.b ∧ SegC m2 hi w v3 x.c
theorem SegG.kept {lo hi : Nat} {w w' : World} {x : Gl} {v0 v1 v2 v3 : Value} (h : SegG lo hi w x v0 v1 v2 v3) (hk : Agree lo hi w w') : SegG lo hi w' x v0 v1 v2 v3 := by
  obtain ⟨e, m1, m2, a1, a2, a3, h1, h2, h3⟩ := h
  exact ⟨e, m1, m2, a1, a2, a3, h1.kept (hk.sub (Nat.le_refl _) (by omega)), h2.kept (hk.sub a1 a3), h3.kept (hk.sub (by omega) (Nat.le_refl _))⟩
theorem SegG.glV {lo hi : Nat} {w : World} {x : Gl} {v0 v1 v2 v3 : Value} (h : SegG lo hi w x v0 v1 v2 v3) : GlV w x v0 v1 v2 v3 := by
  obtain ⟨e, m1, m2, a1, a2, a3, h1, h2, h3⟩ := h
  exact ⟨e, h1.slC, h2.slC, h3.slC⟩
def EGl (s : List Gl) (i l r : Nat) (w : World) (us : List Value) : Prop := ∃ (h : i < s.length) (v0 v1 v2 v3 : Value), us = [v0, v1, v2, v3] ∧ SegG l r w s[i] v0 v1 v2 v3
theorem egl_keeps (s : List Gl) : Keeps (EGl s) := fun i l r w w' us ⟨h, v0, v1, v2, v3, e, hs⟩ hk => ⟨h, v0, v1, v2, v3, e, hs.kept hk⟩
def SegGS (lo hi : Nat) (w : World) (v : Value) (s : List Gl) : Prop := SegL lo hi w 93 4 v s.length (EGl s)
/-- A clause that is owned. -/
def SegK (lo hi : Nat) (w : World) (x : Cl) (v0 v1 : Value) : Prop := ∃ m, lo ≤ m ∧ m ≤ hi ∧ SegC lo m w v0 x.h ∧ SegGS m hi w v1 x.g
theorem SegK.kept {lo hi : Nat} {w w' : World} {x : Cl} {v0 v1 : Value} (h : SegK lo hi w x v0 v1) (hk : Agree lo hi w w') : SegK lo hi w' x v0 v1 := by
  obtain ⟨m, a1, a2, h1, h2⟩ := h
  exact ⟨m, a1, a2, h1.kept (hk.sub (Nat.le_refl _) a2), h2.kept (egl_keeps _) (hk.sub a1 (Nat.le_refl _))⟩
def EKl (s : List Cl) (i l r : Nat) (w : World) (us : List Value) : Prop := ∃ (h : i < s.length) (v0 v1 : Value), us = [v0, v1] ∧ SegK l r w s[i] v0 v1
theorem ekl_keeps (s : List Cl) : Keeps (EKl s) := fun i l r w w' us ⟨h, v0, v1, e, hs⟩ hk => ⟨h, v0, v1, e, hs.kept hk⟩
def SegKS (lo hi : Nat) (w : World) (v : Value) (s : List Cl) : Prop := SegL lo hi w 142 2 v s.length (EKl s)
def SegP (lo hi : Nat) (w : World) (v : Value) (s : List Pc) : Prop := w.ownsRow lo 144 3 v s.length (flatPc s) ∧ Under hi v
def SegPg (lo hi : Nat) (w : World) (x : Pg) (v0 v1 : Value) : Prop := ∃ m, lo ≤ m ∧ m ≤ hi ∧ SegP lo m w v1 x.ps ∧ SegKS m hi w v0 x.cs

/-- What is owned can be read. -/
theorem segL_read {lo hi : Nat} {w : World} {T sz : Nat} {v : Value} {n : Nat} {E : Nat → Nat → Nat → World → List Value → Prop} (h : SegL lo hi w T sz v n E) (hsz : 0 < sz) :
    ∃ ao cap, v = .slice ao n cap ∧ n ≤ cap ∧ cap ≤ maxLen ∧ (n = 0 ∨ ∃ b, ao = some ⟨b, 0, none⟩ ∧ ∀ i, i < n → ∃ l r us, E i l r w us ∧ ∀ j u, us[j]? = some u → j < sz → w.cell? ⟨b, i * sz + j, none⟩ = some u) := by
  obtain ⟨ao, cap, e, h1, h2⟩ := h.shape
  obtain ⟨xs, L, R, hx, hv, he⟩ := h
  refine ⟨ao, cap, e, h1, h2, ?_⟩
  subst e
  rcases hx.2 with ⟨e1, h3⟩ | ⟨g, cap', cur, e1, _⟩
  · exact .inl h3
  · right
    injection e1 with e1 _ e3
    subst e1 e3
    refine ⟨g, rfl, fun i hi => ?_⟩
    obtain ⟨a1, a2, a3, a4, a5, a6⟩ := he i hi
    refine ⟨_, _, _, a6, fun j u hj hjs => ?_⟩
    have h4 : i * sz + j < n * sz := by
      have : i * sz + sz ≤ n * sz := by rw [← Nat.succ_mul]; exact Nat.mul_le_mul_right _ hi
      omega
    rw [hx.cellAt (i * sz + j) h4]
    rw [List.getElem?_take_of_lt hjs, List.getElem?_drop] at hj
    exact hj
theorem SegGS.slG {lo hi : Nat} {w : World} {v : Value} {s : List Gl} (h : SegGS lo hi w v s) : SlG w v s := by
  obtain ⟨ao, cap, e, h1, h2, h3⟩ := segL_read h (by omega)
  refine ⟨ao, cap, e, h1, h2, ?_⟩
  rcases h3 with h3 | ⟨b, e1, h3⟩
  · exact .inl (List.length_eq_zero_iff.1 h3)
  · refine .inr ⟨b, 0, e1, fun i hi => ?_⟩
    obtain ⟨l, r, us, ⟨_, v0, v1, v2, v3, rfl, hs⟩, hc⟩ := h3 i hi
    refine ⟨v0, v1, v2, v3, ?_, ?_, ?_, ?_, hs.glV⟩
    · have := hc 0 v0 rfl (by omega); simpa using this
    · have := hc 1 v1 rfl (by omega); simpa using this
    · have := hc 2 v2 rfl (by omega); simpa using this
    · have := hc 3 v3 rfl (by omega); simpa using this
theorem SegK.clV {lo hi : Nat} {w : World} {x : Cl} {v0 v1 : Value} (h : SegK lo hi w x v0 v1) : ClV w x v0 v1 := by
  obtain ⟨m, a1, a2, h1, h2⟩ := h
  exact ⟨h1.slC, h2.slG⟩
theorem SegKS.slK {lo hi : Nat} {w : World} {v : Value} {s : List Cl} (h : SegKS lo hi w v s) : SlK w v s := by
  obtain ⟨ao, cap, e, h1, h2, h3⟩ := segL_read h (by omega)
  refine ⟨ao, cap, e, h1, h2, ?_⟩
  rcases h3 with h3 | ⟨b, e1, h3⟩
  · exact .inl (List.length_eq_zero_iff.1 h3)
  · refine .inr ⟨b, 0, e1, fun i hi => ?_⟩
    obtain ⟨l, r, us, ⟨_, v0, v1, rfl, hs⟩, hc⟩ := h3 i hi
    refine ⟨v0, v1, ?_, ?_, hs.clV⟩
    · have := hc 0 v0 rfl (by omega); simpa using this
    · have := hc 1 v1 rfl (by omega); simpa using this
theorem SegP.slP {lo hi : Nat} {w : World} {v : Value} {s : List Pc} (h : SegP lo hi w v s) : SlP w v s := by
  have h' := h.1
  rcases h'.2 with ⟨e1, h2⟩ | ⟨g, cap', cur, e1, _, _, h3, h4, _⟩
  · refine ⟨none, 0, by rw [e1, h2], by omega, by unfold maxLen; omega, .inl (List.length_eq_zero_iff.1 h2)⟩
  · refine ⟨_, cap', e1, h3, h4, ?_⟩
    subst e1
    exact rowP_own h'
theorem SegPg.pgV {lo hi : Nat} {w : World} {x : Pg} {v0 v1 : Value} (h : SegPg lo hi w x v0 v1) : PgV w x v0 v1 := by
  obtain ⟨m, a1, a2, h1, h2⟩ := h
  exact ⟨h2.slK, h1.slP⟩
theorem SegP.kept {lo hi : Nat} {w w' : World} {v : Value} {s : List Pc} (h : SegP lo hi w v s) (hk : Agree lo hi w w') : SegP lo hi w' v s := ⟨own_block h.1 (fun b e => hk b (h.1.lt b e).1 (h.2 b e)), h.2⟩
theorem SegPg.kept {lo hi : Nat} {w w' : World} {x : Pg} {v0 v1 : Value} (h : SegPg lo hi w x v0 v1) (hk : Agree lo hi w w') : SegPg lo hi w' x v0 v1 := by
  obtain ⟨m, a1, a2, h1, h2⟩ := h
  exact ⟨m, a1, a2, h1.kept (hk.sub (Nat.le_refl _) a2), h2.kept (ekl_keeps _) (hk.sub a1 (Nat.le_refl _))⟩
end Go.Proofs.Ytkedckmpjedjoaa
