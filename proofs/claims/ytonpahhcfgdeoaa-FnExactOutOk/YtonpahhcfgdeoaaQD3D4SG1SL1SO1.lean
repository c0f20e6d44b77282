import Derived.Test.YtonpahhcfgdeoaaQSB3D1D2
import Derived.Test.YtonpahhcfgdeoaaQW15
import Derived.WalkSpells
import Derived.Test.YtonpahhcfgdeoaaQOpenW12PB5
import Derived.Deep.AppendLies
import Derived.Test.YtonpahhcfgdeoaaQW2W3W4W6SB2
import Derived.Deep.RegionHeld3
import Derived.Deep.QuietTactic
import Derived.BigQuiet
/- What is drawn: places of a term (l20Term). -/
namespace Go.Proofs.Ytonpahhcfgdeoaa
open Go.RowKit
set_option linter.unusedVariables false
set_option linter.unusedSimpArgs false

/-- How long a slice value is: for a loop's measure. -/
def lenV : Value → Nat
  | .slice _ n _ => n
  | _ => 0

theorem own_setc {w : World} {base e size n : Nat} {v : Value} {xs : List Value} (h : w.ownsRow base e size v n xs) {p : Addr} (hp : ∀ k, v.ownBlock = some k → k ≠ p.block) (u : Value) : (w.setCell p u).ownsRow base e size v n xs := by
  refine h.kept (row := some p.block) ⟨rfl, rfl, rfl, by simp [World.setCell], fun k hk hn => Below.heap_setCell w p u k (fun e => hn (by rw [e]))⟩ ?_
  cases hv : v.ownBlock with
  | none => exact .inl rfl
  | some k => exact .inr (fun e => hp k hv (by simpa using e))

theorem grown_own {w W w5 : World} {R : Nat} {o : Obj} {v : Value} (h : w.grownBy W (some R)) (hg : (W.alloc o).grownBy w5 v.ownBlock) (hv : ∀ k, v.ownBlock = some k → w.heap.size ≤ k) : w.grownBy w5 (some R) := by
  have h1 := grown_trans h (grown_alloc W o (some R))
  exact ⟨hg.os.trans h1.os, hg.tape.trans h1.tape, hg.output.trans h1.output, Nat.le_trans h1.size hg.size, fun k hk hn => (hg.block k (Nat.lt_of_lt_of_le hk h1.size) (fun e => by have := hv k e.symm; omega)).trans (h1.block k hk hn)⟩

theorem lenV_own {w : World} {base : Nat} {v : Value} {t : List C} (h : OwnC w base v t) : lenV v = t.length := by
  obtain ⟨ao, cap, rfl, _⟩ := h.shape
  rfl

theorem all_snoc {P : C → Prop} {t : List C} {c : C} (h : ∀ d ∈ t, P d) (hc : P c) : ∀ d ∈ t ++ [c], P d := fun d hd => by
  rcases List.mem_append.1 hd with h' | h'
  · exact h d h'
  · simp at h'; subst h'; exact hc

theorem size3 (w : World) (a b c : Addr) (x y z : Value) : (((w.setCell a x).setCell b y).setCell c z).heap.size = w.heap.size := by simp [World.setCell]

end Go.Proofs.Ytonpahhcfgdeoaa

/- What is drawn: places that may be no term (l20Spoil), and either (l20TermOr). -/
namespace Go.Proofs.Ytonpahhcfgdeoaa
open Go.RowKit
set_option linter.unusedVariables false
set_option linter.unusedSimpArgs false

theorem flat_set_k : ∀ (t : List C) (k : Nat) (h : k < t.length) (x : Int), (flat t).set (k * 3) (.int .i64 x) = flat (t.set k ⟨x, t[k].n, t[k].s⟩)
  | c :: t, 0, _, x => rfl
  | c :: t, k + 1, h, x => by
      have ih := flat_set_k t k (by simpa using h) x
      rw [flat_cons, show (k + 1) * 3 = k * 3 + 1 + 1 + 1 by omega, List.set_cons_succ, List.set_cons_succ, List.set_cons_succ, ih, List.set_cons_succ, flat_cons]
      rfl
theorem flat_set_n : ∀ (t : List C) (k : Nat) (h : k < t.length) (x : Int), (flat t).set (k * 3 + 1) (.int .i64 x) = flat (t.set k ⟨t[k].k, x, t[k].s⟩)
  | c :: t, 0, _, x => rfl
  | c :: t, k + 1, h, x => by
      have ih := flat_set_n t k (by simpa using h) x
      rw [flat_cons, show (k + 1) * 3 + 1 = k * 3 + 1 + 1 + 1 + 1 by omega, List.set_cons_succ, List.set_cons_succ, List.set_cons_succ, ih, List.set_cons_succ, flat_cons]
      rfl
theorem flat_set_s : ∀ (t : List C) (k : Nat) (h : k < t.length) (x : ByteArray), (flat t).set (k * 3 + 2) (.string x) = flat (t.set k ⟨t[k].k, t[k].n, x⟩)
  | c :: t, 0, _, x => rfl
  | c :: t, k + 1, h, x => by
      have ih := flat_set_s t k (by simpa using h) x
      rw [flat_cons, show (k + 1) * 3 + 2 = k * 3 + 2 + 1 + 1 + 1 by omega, List.set_cons_succ, List.set_cons_succ, List.set_cons_succ, ih, List.set_cons_succ, flat_cons]
      rfl
theorem flat_set3 (t : List C) (k : Nat) (h : k < t.length) (c : C) : (((flat t).set (k * 3) (.int .i64 c.k)).set (k * 3 + 1) (.int .i64 c.n)).set (k * 3 + 2) (.string c.s) = flat (t.set k c) := by
  rw [flat_set_k t k h, flat_set_n _ k (by simpa using h), flat_set_s _ k (by simpa using h)]
  simp

theorem flat_take (t : List C) (k : Nat) (h : k ≤ t.length) : (flat t).take (k * 3) = flat (t.take k) := by
  have e : flat t = flat (t.take k) ++ flat (t.drop k) := by rw [← flat_append, List.take_append_drop]
  rw [e, List.take_left' (by rw [flat_length]; simp; omega)]

theorem flat_one (t : List C) : ∀ u ∈ flat t, u.oneCell' = true := by
  intro u hu
  unfold flat at hu
  obtain ⟨c, _, hc⟩ := List.mem_flatMap.1 hu
  simp [cellsOf] at hc
  rcases hc with rfl | rfl | rfl <;> rfl

theorem all_set {P : C → Prop} {t : List C} {k : Nat} {c : C} (h : ∀ d ∈ t, P d) (hc : P c) : ∀ d ∈ t.set k c, P d := fun d hd => by
  rcases List.mem_or_eq_of_mem_set hd with h' | h'
  · exact h d h'
  · subst h'; exact hc

theorem At.each {w : World} {b off : Nat} {t : List C} (h : At w b off t) : ∀ j u, (flat t)[j]? = some u → w.cell? ((⟨b, off, none⟩ : Addr).add j) = some u := by
  intro j u hj
  have hl : j < t.length * 3 := by
    have := (List.getElem?_eq_some_iff.1 hj).1
    rw [flat_length] at this; exact this
  have hk : j / 3 < t.length := by omega
  have f := flat_get t (j / 3) hk
  have a := h (j / 3) hk
  have ad : (⟨b, off, none⟩ : Addr).add j = ⟨b, off + j, none⟩ := by
    unfold Addr.add
    by_cases h0 : j = 0
    · simp [h0]
    · simp [h0]
  rw [ad]
  obtain h0 | h0 | h0 : j = j / 3 * 3 ∨ j = j / 3 * 3 + 1 ∨ j = j / 3 * 3 + 2 := by omega
  · rw [h0, f.1] at hj; rw [h0, ← hj]; exact a.1
  · rw [h0, f.2.1] at hj; rw [h0, ← hj]; exact a.2.1
  · rw [h0, f.2.2] at hj; rw [h0, ← hj]; exact a.2.2

/-- A row of the call's own, behind its cut. -/
theorem own_cut {w : World} {base g cap k : Nat} {t : List C} (h : OwnC w base (.slice (some ⟨g, 0, none⟩) t.length cap) t) (hk : k ≤ t.length) : OwnC w base (.slice (some ⟨g, 0, none⟩) k cap) (t.take k) := by
  have hl : (t.take k).length = k := by simp; omega
  rcases h.2 with ⟨e, _⟩ | ⟨g', cap', cur, e, hb, hg, hn, hc, hcs, htake⟩
  · simp at e
  · simp only [Value.slice.injEq, Option.some.injEq, Addr.mk.injEq, and_true, true_and] at e
    obtain ⟨rfl, rfl⟩ := e
    unfold OwnC
    rw [hl]
    refine ⟨by rw [flat_length, hl], .inr ⟨g, cap, cur, rfl, hb, hg, by omega, hc, hcs, ?_⟩⟩
    rw [← flat_take t k hk, ← htake, List.take_take, Nat.min_eq_left (by omega)]

/-- A place of a row of the call's own. -/
theorem own_place {w : World} {base g cap k : Nat} {t : List C} (h : OwnC w base (.slice (some ⟨g, 0, none⟩) t.length cap) t) (hk : k < t.length) :
    w.cell? ⟨g, k * 3, none⟩ = some (.int .i64 t[k].k) ∧ w.cell? ⟨g, k * 3 + 1, none⟩ = some (.int .i64 t[k].n) ∧ w.cell? ⟨g, k * 3 + 2, none⟩ = some (.string t[k].s) ∧ w.frozen? ⟨g, k * 3, none⟩ = false ∧ w.frozen? ⟨g, k * 3 + 1, none⟩ = false ∧ w.frozen? ⟨g, k * 3 + 2, none⟩ = false := by
  have f := flat_get t k hk
  exact ⟨(h.cellAt (k * 3) (by omega)).trans f.1, (h.cellAt (k * 3 + 1) (by omega)).trans f.2.1, (h.cellAt (k * 3 + 2) (by omega)).trans f.2.2, h.frozenAt _, h.frozenAt _, h.frozenAt _⟩
end Go.Proofs.Ytonpahhcfgdeoaa

/- The walks of slices.Clone over places, and of SubGet, the specification's and the program's. -/
namespace Go.Proofs.Ytonpahhcfgdeoaa
open Go.RowKit
set_option linter.unusedVariables false
set_option linter.unusedSimpArgs false

theorem nilCells (w : World) (a : Option Addr) (n c : Nat) : (binOp .eql 28 (.slice a n c) (.slice none 0 0)).run Try.prog w = .ok (.bool a.isNone) w := Lib.run_eql_slice_nil w _ _ a n c 0 0 Try.underlying28

/-- None of the first k is bound as v. -/
def NotYet (s : List B) (v : Int) (k : Nat) : Prop := ∀ j, (h : j < s.length) → j < k → s[j].v ≠ v
theorem NotYet.step {s : List B} {v : Int} {k : Nat} (h : NotYet s v k) (hk : k < s.length) (hn : s[k].v ≠ v) : NotYet s v (k + 1) := fun j hj hjk => by
  by_cases e : j = k
  · subst e; exact hn
  · exact h j hj (by omega)
theorem NotYet.hit {s : List B} {v : Int} {k : Nat} (h : NotYet s v k) (hk : k < s.length) (hv : s[k].v = v) : getB s v = s[k].t := getB_hit hk hv (fun j hj => h j (by omega) hj)
theorem NotYet.all {s : List B} {v : Int} (h : NotYet s v s.length) : getB s v = [] := getB_none (fun x hx => by
  obtain ⟨j, hj, rfl⟩ := List.getElem_of_mem hx
  exact h j hj hj)

set_option maxRecDepth 100000 in
set_option maxHeartbeats 1000000 in
theorem l2Get_some (b off cap : Nat) (s : List B) (v : Int) (w : World) (hm : s.length ≤ 1048576) (hA : AtB w b off s) :
    Calls Try.prog 90 #[.slice (some ⟨b, off, none⟩) s.length cap, .int .i64 v] w fun e w' => ∃ ao cp, e = .returned (.slice ao (getB s v).length cp) ∧ (getB s v).length ≤ cp ∧ cp ≤ maxLen ∧ Row w' ao (getB s v) ∧ Below w.heap.size w w' := by
  go_enter Try.func90, Try.ntmps90
  go_wp2
  go_loopw [5] (fun i wr => ∃ (k : Nat), k ≤ s.length ∧ i = .int .i64 k ∧ NotYet s v k ∧ wr = w) (fun i _ => s.length - (intOf i).toNat)
  case atStart => exact ⟨0, Nat.zero_le _, rfl, fun j _ h => absurd h (Nat.not_lt_zero _), rfl⟩
  case round =>
    obtain ⟨k, hk, rfl, hN, rfl⟩ := hrel
    by_cases hlt : k < s.length
    · obtain ⟨c0, ao, cp, c1, hc, hcm, hR⟩ := hA k hlt
      have HS := hide (hN.step hlt)
      have HH := hide (hN.hit hlt)
      clear hN
      obtain ⟨y, hy⟩ : ∃ y, y = s[k] := ⟨_, rfl⟩
      rw [← hy] at c0 c1 hR HS HH hc
      clear hy
      have HC := hide hc
      have HCM := hide hcm
      have HR := hide hR
      clear hc hcm hR
      by_cases hv : y.v = v
      · have hb : (y.v == v) = true := by simpa using hv
        have HV := hide hv
        clear hv
        go_wp2
        go_ret
        exact ⟨ao, cp, by rw [unhide HH (unhide HV)]; rfl, by rw [unhide HH (unhide HV)]; exact unhide HC, unhide HCM, by rw [unhide HH (unhide HV)]; exact unhide HR, Below.refl _ _⟩
      · have hb : (y.v == v) = false := by simpa using hv
        go_wp2
        go_roundw
        case rel => exact ⟨k + 1, by omega, by go_num, unhide HS hv, by first | rfl | trivial⟩
        case measure => simp [intOf]; omega
    · have e : k = s.length := by omega
      subst e
      have HE := hide hN.all
      go_wp2
      go_ret
      exact ⟨_, 0, by rw [unhide HE]; rfl, by rw [unhide HE]; exact Nat.le_refl _, by simp [maxLen], by rw [unhide HE]; exact .inl rfl, cell_below _ _⟩

set_option maxRecDepth 100000 in
theorem l2Get_none (ao : Option Addr) (cap : Nat) (v : Int) (w : World) :
    Calls Try.prog 90 #[.slice ao 0 cap, .int .i64 v] w fun e w' => ∃ ao cp, e = .returned (.slice ao (getB [] v).length cp) ∧ (getB [] v).length ≤ cp ∧ cp ≤ maxLen ∧ Row w' ao (getB [] v) ∧ Below w.heap.size w w' := by
  go_enter Try.func90, Try.ntmps90
  go_wp2
  refine wp_loop_rounds 1 ?_
  rw [rounds_succ]
  go_wp2
  go_ret
  exact ⟨_, 0, rfl, Nat.le_refl _, by simp [maxLen], .inl rfl, cell_below _ _⟩

theorem l2Get_any (ao : Option Addr) (cap : Nat) (s : List B) (v : Int) (w : World) (hm : s.length ≤ 1048576) (hA : RowB w ao s) :
    Calls Try.prog 90 #[.slice ao s.length cap, .int .i64 v] w fun e w' => ∃ ao cp, e = .returned (.slice ao (getB s v).length cp) ∧ (getB s v).length ≤ cp ∧ cp ≤ maxLen ∧ Row w' ao (getB s v) ∧ Below w.heap.size w w' := by
  rcases hA with rfl | ⟨b, off, rfl, hA⟩
  · exact l2Get_none ao cap v w
  · exact l2Get_some b off cap s v w hm hA

end Go.Proofs.Ytonpahhcfgdeoaa

/- The walk of l2Leads, the specification's search for what a term leads to. -/
namespace Go.Proofs.Ytonpahhcfgdeoaa
open Go.RowKit
set_option linter.unusedVariables false
set_option linter.unusedSimpArgs false

theorem tot_sum (s : List B) : (s.map fun x => x.t.length).sum = tot s := by
  induction s with
  | nil => rfl
  | cons x s ih => simp [tot, ih]
theorem getB_len {s : List B} (u : Int) : (getB s u).length ≤ tot s := by
  by_cases h0 : getB s u = []
  · rw [h0]; simp
  · obtain ⟨y, hy, _, e⟩ := getB_mem h0
    rw [← e]; exact tot_mem hy

/-- What an append of one number leaves of two rows. -/
theorem app_two {wr w1 : World} {base lo g' cap' : Nat} {v vm : Value} {z mo : List Int} {x : Int} (hown : OwnI wr base v z) (hmo : OwnI wr lo vm mo) (hd : vm.ownBlock = none ∨ vm.ownBlock ≠ v.ownBlock)
    (hown' : w1.ownsRow base 3 1 (.slice (some ⟨g', 0, none⟩) (z.length + 1) cap') (z.length + 1) (nums z ++ [.int .i64 x])) (hgrow : (wr.alloc (.cells #[.int .i64 x] 3)).grownBy w1 v.ownBlock) (hat : v.ownBlock = some g' ∨ g' = wr.heap.size + 1) :
    OwnI w1 base (.slice (some ⟨g', 0, none⟩) (z ++ [x]).length cap') (z ++ [x]) ∧ OwnI w1 lo vm mo ∧ (vm.ownBlock = none ∨ vm.ownBlock ≠ (Value.slice (some ⟨g', 0, none⟩) (z ++ [x]).length cap').ownBlock) := by
  refine ⟨?_, World.ownsRow.kept (World.ownsRow.alloc hmo _) hgrow hd, ?_⟩
  · unfold OwnI
    rw [show nums (z ++ [x]) = nums z ++ [.int .i64 x] by simp [nums], show (z ++ [x]).length = z.length + 1 by simp]
    exact hown'
  · rcases hd with hd | hd
    · exact .inl hd
    · right
      rcases hat with hat | hat
      · show vm.ownBlock ≠ some g'
        rw [← hat]; exact hd
      · intro e
        have := (hmo.lt g' e).2
        omega

set_option maxRecDepth 100000 in
set_option maxHeartbeats 4000000 in
theorem l2Leads_any (ao : Option Addr) (cap : Nat) (s : List B) (bo : Option Addr) (cp : Nat) (t : List C) (w : World) (hs : s.length ≤ 1048576) (ht : t.length ≤ 1048576) (hst : tot s ≤ 1048576) (hA : RowB w ao s) (hT : Row w bo t) :
    Calls Try.prog 91 #[.slice ao s.length cap, .slice bo t.length cp] w fun e w' => ∃ v out, e = .returned v ∧ OwnI w' w.heap.size v out ∧ (∀ x, x ∈ out ↔ Reach s t x) ∧ out.length ≤ 2097152 ∧ Below w.heap.size w w' := by
  obtain ⟨i0, hi, hz0, hz1, hz2⟩ := info_parts Try.infoInt
  have hN : (allV s t).length ≤ 2097152 := by rw [allV_len, tot_sum]; omega
  go_enter Try.func91, Try.ntmps91
  go_wp2_with fail
  refine (specTrmFree_any bo cp t _ ht hT).mono ?_
  rintro e w1 ⟨v1, rfl, hO1, hb1⟩
  go_wp2
  go_loopw [5, 6] (fun o i wr => ∃ (k : Nat) (out : List Int), i = .int .i64 k ∧ OwnI wr w.heap.size o out ∧ Lead s t out k ∧ Below w.heap.size w wr) (fun _ i _ => 2097152 - (intOf i).toNat)
  case atStart => exact ⟨0, _, rfl, hO1, Lead.begin s t, hb1⟩
  case round =>
    obtain ⟨k, out, rfl, hO, hL, hB⟩ := hrel
    have hol : out.length ≤ 2097152 := Nat.le_trans hL.len hN
    have hkl := hL.kle
    have HL := hide hL
    clear hL hO1
    obtain ⟨oa, oc, rfl, hRo⟩ := hO.shape
    by_cases hlt : k < out.length
    · obtain ⟨g, off, ea, hAo⟩ : ∃ b off, oa = some ⟨b, off, none⟩ ∧ AtI wr b off out := by
        rcases hRo with h | h
        · rw [h] at hlt; simp at hlt
        · exact h
      subst ea
      have c0 := hAo k hlt
      have HM : Hid (MoreAt s t k out[k] (freeOf (getB s out[k])) 0 out) := MoreAt.start (unhide HL) hlt
      obtain ⟨u, hu⟩ : ∃ u, u = out[k] := ⟨_, rfl⟩
      rw [← hu] at c0 HM
      clear hu
      have HG := hide (l2Get_any ao cap s u wr hs (hA.below hB))
      have hgl : (getB s u).length ≤ 1048576 := Nat.le_trans (getB_len u) hst
      go_wp2_with fail
      refine (unhide HG).mono ?_
      clear HG
      rintro e w2 ⟨ga, gc, rfl, _, _, hRg, hb2⟩
      go_wp2_with fail
      refine (specTrmFree_any ga gc (getB s u) _ hgl hRg).mono ?_
      rintro e w3 ⟨vm, rfl, hOm, hb3⟩
      have hO3 : OwnI w3 w.heap.size (.slice (some ⟨g, off, none⟩) out.length oc) out := (hO.below hb2).below hb3
      have hd3 : vm.ownBlock = none ∨ vm.ownBlock ≠ (Value.slice (some ⟨g, off, none⟩) out.length oc).ownBlock := by
        cases hv : vm.ownBlock with
        | none => exact .inl rfl
        | some q =>
          right
          intro e
          have h1 := (hOm.lt q hv).1
          have h2 := (hO.lt q e.symm).2
          have := hb2.size
          omega
      have hml : (freeOf (getB s u)).length ≤ 1048576 := Nat.le_trans (freeOf_len _) hgl
      obtain ⟨mo, hmo⟩ : ∃ mo, mo = freeOf (getB s u) := ⟨_, rfl⟩
      have HMO := hide hmo
      rw [← hmo] at hOm HM hml
      clear hmo
      obtain ⟨ma, mc, rfl, hRm⟩ := hOm.shape
      have hB3 := bstep (bstep hB hb2) hb3
      have HO := hide hO
      have HD3 := hide hd3
      clear hO hd3 hRo hAo c0 hRg
      obtain ⟨w3s, hw3s⟩ : ∃ n, n = w2.heap.size := ⟨_, rfl⟩
      rw [← hw3s] at hOm
      clear hw3s
      go_wp2
      go_loopw [5, 8] (fun o i wq => ∃ (j : Nat) (out : List Int), j ≤ mo.length ∧ i = .int .i64 j ∧ OwnI wq w.heap.size o out ∧ OwnI wq w3s (.slice ma mo.length mc) mo ∧ ((Value.slice ma mo.length mc).ownBlock = none ∨ (Value.slice ma mo.length mc).ownBlock ≠ o.ownBlock) ∧ MoreAt s t k u mo j out ∧ Below w.heap.size w wq) (fun _ i _ => mo.length - (intOf i).toNat)
      case atStart => exact ⟨0, out, Nat.zero_le _, rfl, hO3, hOm, unhide HD3, unhide HM, hB3⟩
      case round =>
        clear hO3 hOm HM hB3 HO HD3 hol hkl hlt HL hRm
        obtain ⟨j, ou, hj, rfl, hO, hOm, hd, hM, hB⟩ := hrel
        have hol : ou.length ≤ 2097152 := Nat.le_trans hM.1.len hN
        have HM := hide hM
        have HDD := hide hd
        clear hM hd
        obtain ⟨oa, oc, rfl, hRo⟩ := hO.shape
        have hRm := hOm.row
        by_cases hlt : j < mo.length
        · rcases hRm with h | ⟨mb, moff, rfl, hAm⟩
          · rw [h] at hlt; simp at hlt
          have d0 := hAm j hlt
          have HOLD : Hid (mo[j] ∈ ou → MoreAt s t k u mo (j + 1) ou) := fun h => (unhide HM).old hlt h
          have HNEW : Hid (mo[j] ∉ ou → MoreAt s t k u mo (j + 1) (ou ++ [mo[j]])) := fun h => by
            have hmo := unhide HMO
            have hm := unhide HM
            subst hmo
            exact hm.new hlt h
          obtain ⟨x, hx⟩ : ∃ x, x = mo[j] := ⟨_, rfl⟩
          rw [← hx] at d0 HOLD HNEW
          clear hx
          have hmbl : mb < wr.heap.size := World.block_lt_of_cell? wr ⟨mb, _, none⟩ d0
          by_cases hin : x ∈ ou
          · have hdd : decide (x ∈ ou) = true := by simpa using hin
            have HI := hide (unhide HOLD hin)
            go_wp2_with (go_at_call 89; refine (l1Has_any oa oc ou x _ (by unfold maxLen; omega) hRo).mono ?_; rw [hdd]; rintro e w4 ⟨rfl, rfl⟩)
            go_roundw
            case rel => exact ⟨j + 1, ou, by omega, by go_num, hO, hOm, unhide HDD, unhide HI, hB⟩
            case measure => simp [intOf]; omega
          · have hdd : decide (x ∈ ou) = false := by simpa using hin
            have HI := hide (unhide HNEW hin)
            have HA2 := hide (fun (w1 : World) (g' cap' : Nat) => app_two (w1 := w1) (g' := g') (cap' := cap') (x := x) hO hOm (unhide HDD))
            have hd1 := ((cell_below wr (.cells #[.int .i64 x] 3)).cell (p := ⟨mb, moff + j, none⟩) hmbl).trans d0
            go_wp2_with (first | (go_at_call 89; refine (l1Has_any oa oc ou x _ (by unfold maxLen; omega) hRo).mono ?_; rw [hdd]; rintro e w4 ⟨rfl, rfl⟩) | (at_builtin; refine wpList_append_lies _ rfl _ _ 87 rfl w.heap.size 3 i0 (.int .i64 0) 1 8 Try.underlying87 hi hz0 hz1 hz2 rfl (by decide) _ ou.length _ rfl (World.ownsRow.alloc hO _) ⟨w4.heap.size, 0, none⟩ 1 1 [.int .i64 x] rfl rfl (cell_one_new _ _ _) (by simp [Value.oneCell']) (by omega) (by unfold maxLen; omega) (by omega) (by have := hB.size; simp; omega) (w4.heap.size + 1) (by simp) ?_))
            intro g' cap' w5 hown' hgrow hat hgl'
            have R := unhide HA2 _ _ _ hown' hgrow hat
            have hB5 : Below w.heap.size w w5 := (hB.alloc hB.size _).grown hgrow (by have := hB.size; simp; omega) (fun q e => (hO.lt q e).1)
            have HR := hide R
            have hll : (ou ++ [x]).length = ou.length + 1 := by simp
            rw [hll] at HR
            clear R hown' hgrow hat hgl' hO hOm HA2 d0 hd1 hRo hAm
            go_wp2
            go_roundw
            case rel => exact ⟨j + 1, ou ++ [x], by omega, by go_num, (unhide HR).1, (unhide HR).2.1, (unhide HR).2.2, unhide HI, hB5⟩
            case measure => simp [intOf]; omega
        · have hjl : j = mo.length := by omega
          subst hjl
          have HD : Hid (Lead s t ou (k + 1)) := by
            have hm := unhide HM
            have hmo := unhide HMO
            subst hmo
            exact hm.done
          have hk2 : k + 1 ≤ 2097152 := Nat.le_trans (unhide HD).kle hol
          go_wp2
          go_roundw
          case rel => exact ⟨k + 1, ou, by go_num, hO, unhide HD, hB⟩
          case measure => simp [intOf]; omega
    · have e : k = out.length := by omega
      subst e
      go_wp2
      go_ret
      exact ⟨_, out, rfl, hO, (unhide HL).done, hol, hB⟩
end Go.Proofs.Ytonpahhcfgdeoaa

/- The walk of the specification's SubOk. -/
namespace Go.Proofs.Ytonpahhcfgdeoaa
open Go.RowKit
set_option linter.unusedVariables false
set_option linter.unusedSimpArgs false

/-- The binding at a place is ok. -/
def OkAt (s : List B) (k : Nat) (x : B) : Prop := (0 ≤ x.v ∧ x.v ≤ 99999) ∧ trm x.t = true ∧ ¬ Reach s x.t x.v ∧ ∀ j, (h : j < s.length) → j < k → s[j].v ≠ x.v
def AllOk (s : List B) : Prop := ∀ k, (h : k < s.length) → OkAt s k s[k]
noncomputable def subOk (s : List B) : Bool := @decide (AllOk s) (Classical.propDecidable _)
theorem subOk_yes {s : List B} (h : AllOk s) : subOk s = true := by unfold subOk; simpa using h
theorem subOk_no {s : List B} {k : Nat} (hk : k < s.length) (h : ¬ OkAt s k s[k]) : subOk s = false := by
  unfold subOk
  rw [decide_eq_false_iff_not]
  exact fun h' => h (h' k hk)

end Go.Proofs.Ytonpahhcfgdeoaa
