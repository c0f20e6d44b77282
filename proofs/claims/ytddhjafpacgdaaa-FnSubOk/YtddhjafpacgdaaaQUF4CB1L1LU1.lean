import Derived.Test.YtddhjafpacgdaaaQFL9UF3
import Derived.Test.YtddhjafpacgdaaaQW4W6SB2
import Derived.Test.YtddhjafpacgdaaaQW10W13SB1
import Derived.Test.YtddhjafpacgdaaaQW7W18T5BR1BG1
import Derived.Deep.RegionHeld3
import Derived.Deep.QuietTactic
import Derived.BigQuiet
import Derived.Test.YtddhjafpacgdaaaQD5Open2D6
import Derived.Test.YtddhjafpacgdaaaQT3Plain2T4
import Derived.Test.YtddhjafpacgdaaaQDU1DU2LU0
import Derived.Test.YtddhjafpacgdaaaQMU1RW1FL4FL8
import Derived.Test.YtddhjafpacgdaaaQBO1
/- The walk of the specification's SubUnify. -/
namespace Go.Proofs.Ytddhjafpacgdaaa
open Go.RowKit
set_option linter.unusedVariables false
set_option linter.unusedSimpArgs false

set_option maxRecDepth 100000 in
set_option maxHeartbeats 2000000 in
/-- The specification's SubUnify. -/
theorem specSubUnify_any (ao : Option Addr) (cap : Nat) (s : List B) (bo : Option Addr) (cp : Nat) (a : List C) (co : Option Addr) (cq : Nat) (b : List C) (o : List B) (h : Int) (base base2 : Nat) (w : World) (hs : s.length ≤ 1048576) (hst : tot s ≤ 1048576) (hma : a.length ≤ maxLen) (hmb : b.length ≤ maxLen) (hA : RowB w ao s) (hF : FitB s) (hT : OwnC w base (.slice bo a.length cp) a) (hFa : Fit a) (hT2 : OwnC w base2 (.slice co b.length cq) b) (hFb : Fit b) (hM : UM s a b o h) :
    Calls Try.prog 36 #[.slice ao s.length cap, .slice bo a.length cp, .slice co b.length cq] w (UOutM o h w) := by
  have HM := hide hM
  have HWR : Hid (∀ (w' : World), ¬ (subOk s = true ∧ trm a = true ∧ trm b = true) → Below w.heap.size w w' → UOutM o h w (.returned (.tuple #[.slice (some ⟨w'.heap.size, 0, none⟩) 0 0, .int .i64 4])) (w'.alloc (.cells #[] 51))) := fun w' hn hb => by
    rcases unhide HM with ⟨hc, _⟩ | ⟨_, rfl, rfl⟩
    · exact absurd hc hn
    · exact ⟨_, rfl, ownB_made w' w.heap.size hb.size, bstep hb (cell_below _ _)⟩
  have H1 := hide (specSubOk_any ao cap s w hs hst hA hF)
  have H2 := hide (fun (W : World) (hb : Below w.heap.size w W) => specTrmOk_any bo cp a W hma (OwnC.row (OwnC.below hT hb)) hFa)
  have H3 := hide (fun (W : World) (hb : Below w.heap.size w W) => specTrmOk_any co cq b W hmb (OwnC.row (OwnC.below hT2 hb)) hFb)
  have H4 := hide (fun (W : World) (hb : Below w.heap.size w W) (hp : ∀ x ∈ s, trm x.t = true) => l2Copy_any ao cap s W hs (fun x hx => ⟨(trm_len (hp x hx)).1, Nat.le_trans (trm_len (hp x hx)).2 (by omega)⟩) (hA.below hb))
  have HTA := hide hT
  have HTB := hide hT2
  clear hM hT hT2 hFa hFb hA hF
  go_enter Try.func36, Try.ntmps36
  go_wp2_with fail
  refine (unhide H1).mono ?_
  clear H1
  cases h1 : subOk s with
  | false =>
    rintro e w1 ⟨rfl, hb1⟩
    have HX := hide (unhide HWR w1 (fun hc => by rw [h1] at hc; cases hc.1) hb1)
    clear h1
    go_wp2
    go_ret2
    exact unhide HX
  | true =>
    rintro e w1 ⟨rfl, hb1⟩
    go_wp2_with fail
    refine (unhide H2 w1 hb1).mono ?_
    clear H2
    cases h2 : trm a with
    | false =>
      rintro e w2 ⟨rfl, hb2⟩
      have HX := hide (unhide HWR w2 (fun hc => by rw [h2] at hc; cases hc.2.1) (bstep hb1 hb2))
      clear h1 h2
      go_wp2
      go_ret2
      exact unhide HX
    | true =>
      rintro e w2 ⟨rfl, hb2⟩
      have hB2 := bstep hb1 hb2
      go_wp2_with fail
      refine (unhide H3 w2 hB2).mono ?_
      clear H3
      cases h3 : trm b with
      | false =>
        rintro e w3 ⟨rfl, hb3⟩
        have HX := hide (unhide HWR w3 (fun hc => by rw [h3] at hc; cases hc.2.2) (bstep hB2 hb3))
        clear h1 h2 h3
        go_wp2
        go_ret2
        exact unhide HX
      | true =>
        rintro e w3 ⟨rfl, hb3⟩
        have hB3 := bstep hB2 hb3
        obtain ⟨a', b', res, sf, a'', hw, ho, hh⟩ : ∃ a' b' res sf a'', UW s a b a' b' res sf a'' ∧ o = uwO a' b' res a'' ∧ h = uwH a' b' res a'' := by
          rcases unhide HM with ⟨_, h⟩ | ⟨hn, _⟩
          · exact h
          · exact absurd ⟨h1, h2, h3⟩ hn
        obtain ⟨hrg, htr⟩ := subOk_parts h1
        have hOk := subOk_okB h1
        have hla := trm_len h2
        have hlb := trm_len h3
        have H5 := hide (unhide H4 w3 hB3 htr)
        have hz3 := hB3.size
        have HMT : Hid (∀ (ca : Option Addr) (cc : Nat) (w4 : World), OwnB w4 w3.heap.size w4.heap.size (.slice ca s.length cc) s → Below w3.heap.size w3 w4 → Calls Try.prog 79 #[.slice ca s.length cc, .slice bo a.length cp, .slice co b.length cq] w4 (MeetOut (uwO a' b' res a'') (uwH a' b' res a'') w3.heap.size (.slice ca s.length cc) w4)) := fun ca cc w4 hO4 hb4 => by
          have hTa4 := OwnC.below (unhide HTA) (bstep hB3 hb4)
          have hTb4 := OwnC.below (unhide HTB) (bstep hB3 hb4)
          obtain ⟨ab, aoff, ea, hAt⟩ := (OwnC.row hTa4).resolve_left (fun e => by rw [e] at hla; simp at hla)
          obtain ⟨bb, boff, eb, hBt⟩ := (OwnC.row hTb4).resolve_left (fun e => by rw [e] at hlb; simp at hlb)
          subst ea
          subst eb
          exact l2Meet_any ca cc w3.heap.size s sf ab aoff cp bb boff cq a b a' b' a'' res w4 hb4.size hO4 hOk hrg (fun x hx => (trm_len (htr x hx)).2) (own_tdT hTa4 hla.1) (own_tdT hTb4 hlb.1) hAt hBt h2 h3 hw
        subst ho
        subst hh
        clear hw hrg htr hOk h1 h2 h3 HWR HM H4
        go_wp2_with fail
        refine (unhide H5).mono ?_
        rintro e w4 ⟨cv, rfl, hOc, hb4⟩
        obtain ⟨ca, cc, rfl, _⟩ := hOc.shape
        have hB4 := bstep hB3 hb4
        have H6 := hide (unhide HMT ca cc w4 hOc hb4)
        have HBK : Hid (∀ k, (Value.slice ca s.length cc).ownBlock = some k → w3.heap.size ≤ k) := by
          obtain ⟨us, _, q2, _⟩ := hOc
          exact fun k e => (q2.lt k e).1
        clear hOc HMT
        go_wp2_with fail
        refine (unhide H6).mono ?_
        rintro e w5 ⟨v, rfl, hO5, hg5⟩
        have HF : Hid (UOutM (uwO a' b' res a'') (uwH a' b' res a'') w (.returned (.tuple #[v, .int .i64 (uwH a' b' res a'')])) w5) := ⟨_, rfl, hO5.lo_le hz3, hB4.grown hg5 hB4.size (fun k e => Nat.le_trans hz3 (unhide HBK k e))⟩
        clear hO5 hg5
        go_wp2
        go_ret2
        exact unhide HF
end Go.Proofs.Ytddhjafpacgdaaa

/- The walk of caBinds of bindings that are the same. -/
namespace Go.Proofs.Ytddhjafpacgdaaa
open Go.RowKit
set_option linter.unusedVariables false
set_option linter.unusedSimpArgs false

set_option maxHeartbeats 400000 in
theorem caBinds_none (ao bo : Option Addr) (cap cap' : Nat) (w : World) :
    Calls Try.prog 37 #[.slice ao 0 cap, .slice bo 0 cap'] w fun e w' => e = .returned (.bool true) ∧ Below w.heap.size w w' := by
  go_enter Try.func37, Try.ntmps37
  go_wp2
  refine wp_loop_rounds 1 ?_
  rw [rounds_succ]
  go_wp2
  go_ret
  exact ⟨rfl, Below.refl _ _⟩

set_option maxHeartbeats 1000000 in
theorem caBinds_some (b off cap b' off' cap' : Nat) (s : List B) (w : World) (hm : s.length ≤ maxLen) (hsh : ∀ y ∈ s, y.t.length ≤ maxLen) (hA : AtB w b off s) (hU : AtB w b' off' s) :
    Calls Try.prog 37 #[.slice (some ⟨b, off, none⟩) s.length cap, .slice (some ⟨b', off', none⟩) s.length cap'] w fun e w' => e = .returned (.bool true) ∧ Below w.heap.size w w' := by
  unfold maxLen at hm
  have HSH := hide hsh
  clear hsh
  go_enter Try.func37, Try.ntmps37
  go_wp2
  go_loopw [5] (fun i wr => ∃ (k : Nat), k ≤ s.length ∧ i = .int .i64 k ∧ Below w.heap.size w wr) (fun i _ => s.length - (intOf i).toNat)
  case atStart => exact ⟨0, Nat.zero_le _, rfl, Below.refl _ _⟩
  case round =>
    obtain ⟨k, hk, rfl, hB⟩ := hrel
    by_cases hlt : k < s.length
    · obtain ⟨c0, ta, tc, c1, htc, htm, hR⟩ := (hA.below hB) k hlt
      obtain ⟨d0, ua, uc, d1, huc, hum, hR'⟩ := (hU.below hB) k hlt
      have hlk := unhide HSH _ (List.getElem_mem hlt)
      generalize s[k] = y at c0 c1 hR d0 d1 hR' hlk htc huc
      have HR := hide hR
      have HR' := hide hR'
      have hvv : (y.v != y.v) = false := by simp
      have hbl : b < wr.heap.size := World.block_lt_of_cell? wr ⟨b, _, none⟩ c0
      have hbl' : b' < wr.heap.size := World.block_lt_of_cell? wr ⟨b', _, none⟩ d0
      clear hR hR' htc huc
      go_wp2
      first | (go_region_held3 (fun w' => w'.cell? ⟨b, off + k * 2, none⟩ = some (.int .i64 y.v) ∧ w'.cell? ⟨b, off + k * 2 + 1, none⟩ = some (.slice ta y.t.length tc) ∧ w'.cell? ⟨b', off' + k * 2, none⟩ = some (.int .i64 y.v) ∧ w'.cell? ⟨b', off' + k * 2 + 1, none⟩ = some (.slice ua y.t.length uc)) (first | (refine ⟨?_, ?_, ?_, ?_⟩ <;> assumption) | go_keep) (first | (go_at_call 26; refine (caTerm_any ta ua tc uc y.t y.t _ hlk (by exact unhide HR) (by exact unhide HR')).mono ?_; rw [sameS_yes rfl]; rintro e w1 ⟨rfl, hb1⟩; have q0 := (hb1.cell (p := ⟨b, off + k * 2, none⟩) hbl).trans c0; have q1 := (hb1.cell (p := ⟨b, off + k * 2 + 1, none⟩) hbl).trans c1; have q2 := (hb1.cell (p := ⟨b', off' + k * 2, none⟩) hbl').trans d0; have q3 := (hb1.cell (p := ⟨b', off' + k * 2 + 1, none⟩) hbl').trans d1))) | fail
      all_goals go_wp2
      all_goals go_roundw
      all_goals first | exact ⟨k + 1, by omega, by go_num, bstep hB.drew (by assumption)⟩ | (simp [intOf]; omega)
    · go_wp2
      go_ret
      exact ⟨rfl, hB⟩

theorem caBinds_same (ao bo : Option Addr) (cap cap' : Nat) (s : List B) (w : World) (hm : s.length ≤ maxLen) (hsh : ∀ y ∈ s, y.t.length ≤ maxLen) (hA : RowB w ao s) (hU : RowB w bo s) :
    Calls Try.prog 37 #[.slice ao s.length cap, .slice bo s.length cap'] w fun e w' => e = .returned (.bool true) ∧ Below w.heap.size w w' := by
  rcases hA with rfl | ⟨b, off, rfl, hA⟩
  · exact caBinds_none ao bo cap cap' w
  · rcases hU with rfl | ⟨b', off', rfl, hU⟩
    · exact caBinds_none _ bo cap cap' w
    · exact caBinds_some b off cap b' off' cap' s w hm hsh hA hU
end Go.Proofs.Ytddhjafpacgdaaa

/- caOk; the walk of the law FnTrmWhole. -/
namespace Go.Proofs.Ytddhjafpacgdaaa
open Go.RowKit
set_option linter.unusedVariables false
set_option linter.unusedSimpArgs false

theorem fit_one : Fit [⟨2, 1, ByteArray.mk #[]⟩] := fun c hc => by simp at hc; subst hc; decide

set_option maxHeartbeats 400000 in
theorem caOk_any (w : World) : Calls Try.prog 30 #[] w fun e w' => e = .returned (.bool true) ∧ Below w.heap.size w w' := by
  have hA : At (w.alloc (.cells #[.int .i64 2, .int .i64 1, .string (ByteArray.mk #[])] 36)) w.heap.size 0 [⟨2, 1, ByteArray.mk #[]⟩] := fun i hi => by
    have h0 : i = 0 := by simp at hi; omega
    subst h0
    simp [go_sem]
  have h1 := TrmOk_some w.heap.size 0 1 [⟨2, 1, ByteArray.mk #[]⟩] _ (by simp [maxLen]) hA fit_one
  rw [trm_one] at h1
  have H := hide h1
  clear h1 hA
  go_enter Try.func30, Try.ntmps30
  go_wp2_with fail
  refine (unhide H).mono ?_
  rintro e w1 ⟨rfl, hb1⟩
  go_wp2
  go_ret
  exact ⟨rfl, bstep (cell_below _ _) hb1⟩

end Go.Proofs.Ytddhjafpacgdaaa

/- The calls that the laws of bindings make, over what is drawn. -/
namespace Go.Proofs.Ytddhjafpacgdaaa
open Go.RowKit
set_option linter.unusedVariables false
set_option linter.unusedSimpArgs false

theorem own_caps {w : World} {base cap : Nat} {ao : Option Addr} {t : List C} (h : OwnC w base (.slice ao t.length cap) t) : t.length ≤ cap ∧ cap ≤ maxLen := by
  obtain ⟨ao', cap', e, h1, h2⟩ := row_shape h
  simp only [Value.slice.injEq] at e
  obtain ⟨_, _, rfl⟩ := e
  exact ⟨h1, h2⟩
theorem len41 {t : List C} (h : t.length ≤ 41) : t.length ≤ maxLen := by unfold maxLen; omega

theorem iU {k base base2 : Nat} {s : List B} {a b : List C} {o : List B} {h : Int} {sa xa ya : Option Addr} {sc xc yc : Nat} {w W : World} (hk : k ≤ 200) (hF : FewK k s) (hA : RowB w sa s) (ha : OwnC w base (.slice xa a.length xc) a) (hb : OwnC w base2 (.slice ya b.length yc) b) (fa : Fit a) (fb : Fit b) (hM : UM s a b o h) (hB : Below w.heap.size w W) :
    Calls Try.prog 35 #[.slice sa s.length sc, .slice xa a.length xc, .slice ya b.length yc] W (UOutM o h W) :=
  implSubUnify_any sa sc s xa xc a ya yc b o h W (hF.len6 hk) (hF.tot hk) (own_caps ha).1 (own_caps ha).2 (own_caps hb).1 (own_caps hb).2 (hA.below hB) hF.fit (OwnC.row (OwnC.below ha hB)) fa (OwnC.row (OwnC.below hb hB)) fb hM
theorem sU {k base base2 : Nat} {s : List B} {a b : List C} {o : List B} {h : Int} {sa xa ya : Option Addr} {sc xc yc : Nat} {w W : World} (hk : k ≤ 200) (hF : FewK k s) (hA : RowB w sa s) (ha : OwnC w base (.slice xa a.length xc) a) (hb : OwnC w base2 (.slice ya b.length yc) b) (la : a.length ≤ 41) (lb : b.length ≤ 41) (fa : Fit a) (fb : Fit b) (hM : UM s a b o h) (hB : Below w.heap.size w W) :
    Calls Try.prog 36 #[.slice sa s.length sc, .slice xa a.length xc, .slice ya b.length yc] W (UOutM o h W) :=
  specSubUnify_any sa sc s xa xc a ya yc b o h base base2 W (hF.len6 hk) (hF.tot hk) (len41 la) (len41 lb) (hA.below hB) hF.fit (OwnC.below ha hB) fa (OwnC.below hb hB) fb hM
theorem iF {k base : Nat} {s : List B} {a : List C} {sa xa : Option Addr} {sc xc : Nat} {w W : World} (hk : k ≤ 200) (hF : FewK k s) (hA : RowB w sa s) (ha : OwnC w base (.slice xa a.length xc) a) (fa : Fit a) (hB : Below w.heap.size w W) :
    Calls Try.prog 40 #[.slice sa s.length sc, .slice xa a.length xc] W (FOut (fullB s a) W) :=
  implSubFull_any sa sc s xa xc a W (hF.len6 hk) (hF.tot hk) (own_caps ha).1 (own_caps ha).2 (hA.below hB) hF.fit (OwnC.row (OwnC.below ha hB)) fa
theorem iO {k : Nat} {s : List B} {sa : Option Addr} {sc : Nat} {w W : World} (hk : k ≤ 200) (hF : FewK k s) (hA : RowB w sa s) (hB : Below w.heap.size w W) {x : Bool} (e : subOk s = x) :
    Calls Try.prog 38 #[.slice sa s.length sc] W fun e w' => e = .returned (.bool x) ∧ Below W.heap.size W w' := by
  subst e
  exact implSubOk_any sa sc s W (hF.len6 hk) (hF.tot hk) (hA.below hB) hF.fit
theorem sO {k : Nat} {s : List B} {sa : Option Addr} {sc : Nat} {w W : World} (hk : k ≤ 200) (hF : FewK k s) (hA : RowB w sa s) (hB : Below w.heap.size w W) {x : Bool} (e : subOk s = x) :
    Calls Try.prog 39 #[.slice sa s.length sc] W fun e w' => e = .returned (.bool x) ∧ Below W.heap.size W w' := by
  subst e
  exact specSubOk_any sa sc s W (hF.len6 hk) (hF.tot hk) (hA.below hB) hF.fit
theorem sT {base : Nat} {a : List C} {xa : Option Addr} {xc : Nat} {w W : World} (la : a.length ≤ 41) (ha : OwnC w base (.slice xa a.length xc) a) (fa : Fit a) (hB : Below w.heap.size w W) {x : Bool} (e : trm a = x) :
    Calls Try.prog 29 #[.slice xa a.length xc] W fun e w' => e = .returned (.bool x) ∧ Below W.heap.size W w' := by
  subst e
  exact specTrmOk_any xa xc a W (len41 la) (OwnC.row (OwnC.below ha hB)) fa
theorem cB {k : Nat} {s : List B} {sa ta : Option Addr} {sc tc : Nat} {W : World} (hk : k ≤ 200) (hF : FewK k s) (hA : RowB W sa s) (hB : RowB W ta s) :
    Calls Try.prog 37 #[.slice sa s.length sc, .slice ta s.length tc] W fun e w' => e = .returned (.bool true) ∧ Below W.heap.size W w' :=
  caBinds_same sa ta sc tc s W (hF.lenm hk) hF.shortm hA hB
theorem cT {base base2 : Nat} {a : List C} {xa ya : Option Addr} {xc yc : Nat} {W : World} (la : a.length ≤ 41) (ha : OwnC W base (.slice xa a.length xc) a) (hb : OwnC W base2 (.slice ya a.length yc) a) :
    Calls Try.prog 26 #[.slice xa a.length xc, .slice ya a.length yc] W fun e w' => e = .returned (.bool true) ∧ Below W.heap.size W w' := by
  have := caTerm_any xa ya xc yc a a W (len41 la) (OwnC.row ha) (OwnC.row hb)
  rwa [sameS_yes rfl] at this

theorem iU0 {base base2 : Nat} {a b : List C} {o : List B} {h : Int} {sa xa ya : Option Addr} {sc xc yc : Nat} {w W : World} (X : Obj) (ha : OwnC w base (.slice xa a.length xc) a) (hb : OwnC w base2 (.slice ya b.length yc) b) (fa : Fit a) (fb : Fit b) (hM : UM [] a b o h) (hB : Below w.heap.size w W) :
    Calls Try.prog 35 #[.slice sa 0 sc, .slice xa a.length xc, .slice ya b.length yc] (W.alloc X) (UOutM o h (W.alloc X)) :=
  iU (k := 0) (s := []) (sc := sc) (by omega) (FewK.nil 0) (.inl rfl) ha hb fa fb hM (bstep hB (cell_below _ _))
theorem sU0 {base base2 : Nat} {a b : List C} {o : List B} {h : Int} {sa xa ya : Option Addr} {sc xc yc : Nat} {w W : World} (X : Obj) (ha : OwnC w base (.slice xa a.length xc) a) (hb : OwnC w base2 (.slice ya b.length yc) b) (la : a.length ≤ 41) (lb : b.length ≤ 41) (fa : Fit a) (fb : Fit b) (hM : UM [] a b o h) (hB : Below w.heap.size w W) :
    Calls Try.prog 36 #[.slice sa 0 sc, .slice xa a.length xc, .slice ya b.length yc] (W.alloc X) (UOutM o h (W.alloc X)) :=
  sU (k := 0) (s := []) (sc := sc) (by omega) (FewK.nil 0) (.inl rfl) ha hb la lb fa fb hM (bstep hB (cell_below _ _))
theorem fullB_some {s : List B} {t x : List C} (h : fullB s t = some x) : trm x = true ∧ x.length ≤ 40 ∧ Fit x := by
  by_cases hc : subOk s = true ∧ trm t = true
  · rw [fullB_ev hc.1 hc.2] at h
    split at h
    · rename_i hl
      cases h
      have := app_trm hc.1 hc.2 hl
      exact ⟨this, hl, fun c hc => (okC_fit ((trm_Trm this).2 c hc)).1⟩
    · cases h
  · unfold fullB at h; rw [if_neg hc] at h; cases h
/-- A call of SubFull that tells a term. -/
theorem iF1 {k base : Nat} {s : List B} {a x : List C} {sa xa : Option Addr} {sc xc : Nat} {w W : World} (hk : k ≤ 200) (hF : FewK k s) (hA : RowB W sa s) (ha : OwnC w base (.slice xa a.length xc) a) (fa : Fit a) (hB : Below w.heap.size w W) (e : fullB s a = some x) :
    Calls Try.prog 40 #[.slice sa s.length sc, .slice xa a.length xc] W fun e w' => ∃ ya yc, e = .returned (.tuple #[.slice ya x.length yc, .bool true]) ∧ OwnC w' W.heap.size (.slice ya x.length yc) x ∧ Below W.heap.size W w' := by
  refine (iF (w := W) (sc := sc) hk hF hA (OwnC.below ha hB) fa (Below.refl _ _)).mono ?_
  rintro e' w' ⟨v, h1, rfl, h2⟩
  rw [e] at h1 ⊢
  obtain ⟨ya, yc, rfl, _⟩ := OwnC.shape (t := x) h1
  exact ⟨ya, yc, rfl, h1, h2⟩

theorem RowB.pre {w : World} {ao : Option Addr} {s r : List B} (h : RowB w ao (s ++ r)) : RowB w ao s := by
  rcases h with h | ⟨b, off, e, h⟩
  · exact .inl (List.append_eq_nil_iff.1 h).1
  · refine .inr ⟨b, off, e, fun i hi => ?_⟩
    have := h i (by simp; omega)
    rwa [List.getElem_append_left hi] at this
theorem fit40 {t : List C} (h : ∀ c ∈ t, okC c = true) : Fit t := fun c hc => (okC_fit (h c hc)).1
end Go.Proofs.Ytddhjafpacgdaaa
