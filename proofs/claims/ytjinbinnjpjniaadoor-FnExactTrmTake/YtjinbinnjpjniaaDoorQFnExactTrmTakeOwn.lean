/- For every slice of bytes the law FnExactTrmTake returns true and leaves its argument and the named variables as they were: TrmTake answers as its specification; its three errors are what the program's text lays. -/
import Derived.Test.YtjinbinnjpjniaaDoorQZX1
import Derived.Test.YtjinbinnjpjniaaDoorQEnter
import Derived.Test.YtjinbinnjpjniaaDoorTie
import Derived.Test.YtjinbinnjpjniaaDoorCards
import Derived.ChangeOld
import Derived.ShutString
import Derived.Below
import Derived.OpenVars
import Derived.ProofKit
import Derived.LaidMore
import Derived.OpenShut
import Derived.Stop.Joined
import Derived.SevenTiedAt
namespace Go.Proofs.YtjinbinnjpjniaaDoor
open Go.ChangeShapes Go.WideShapes Go.ChangeAt Go.RowKit
set_option linter.unusedVariables false

theorem gEnds : Tryd.prog.globalNamed "loop.example/catechist/impl.errEnds" = some 4 := by kernel_rfl
theorem gOn : Tryd.prog.globalNamed "loop.example/catechist/impl.errGoesOn" = some 1 := by kernel_rfl
theorem gTerm : Tryd.prog.globalNamed "loop.example/catechist/impl.errTerm" = some 0 := by kernel_rfl
theorem tEnds : (Tryd.prog.globals[4]?).map (·.type) = some 52 := by kernel_rfl
theorem tOn : (Tryd.prog.globals[1]?).map (·.type) = some 52 := by kernel_rfl
theorem tTerm : (Tryd.prog.globals[0]?).map (·.type) = some 52 := by kernel_rfl

abbrev laid3 : List (String × DataW Unit) := [("loop.example/catechist/impl.errEnds", Rows.laid_loop_example_catechist_impl_errEnds), ("loop.example/catechist/impl.errGoesOn", Rows.laid_loop_example_catechist_impl_errGoesOn), ("loop.example/catechist/impl.errTerm", Rows.laid_loop_example_catechist_impl_errTerm)]

theorem one_iface {W : World} {n : String} {g g0 : Nat} {t0 : TypeId} {cs : Array Value} {f : Nat} {d : DataW Unit} {nm : String} {p : List MemPlace} {bs : Nat} {sp : Nat → Bool} {enc : TypeId × Value → Unit} (hg : Tryd.prog.globalNamed n = some g) (ht : (Tryd.prog.globals[g]?).map (·.type) = some 52) (hg0 : Tryd.prog.globalNamed n = some g0) (ht0 : (Tryd.prog.globals[g0]?).map (·.type) = some t0) (hv : W.var? Tryd.prog n = some cs)
    (hd : DataW.trod enc Tryd.prog W bs sp false f t0 cs.toList = some (.iface nm d, p)) : ∃ T u, W.cell? ⟨g, 0, none⟩ = some (.iface T u) := by
  obtain rfl := Option.some.inj (hg.symm.trans hg0)
  obtain rfl := Option.some.inj (ht.symm.trans ht0)
  obtain ⟨f1, u, v, e, _, _⟩ := iface_of_trod Tryd.underlying52 hd
  obtain ⟨l⟩ := cs
  have e' : l = [.iface u v] := e
  subst e'
  exact ⟨u, v, by simpa using World.var?_cell hg hv 0⟩

theorem gl_of_laid {W : World} (h : laidMetH Tryd.prog laid3 W) : Gl W := by
  rw [MakeChecks.laidMetH_plain _ _ _ (by kernel_rfl)] at h
  obtain ⟨ps, ⟨g0, t0, cs0, f0, p0, q0, hg0, ht0, hv0, hd0, ⟨g1, t1, cs1, f1, p1, q1, hg1, ht1, hv1, hd1, ⟨g2, t2, cs2, f2, p2, q2, hg2, ht2, hv2, hd2, _, _⟩, _⟩, _⟩, _, _⟩ := h
  intro g hgl
  rcases hgl with rfl | rfl | rfl
  · exact one_iface gEnds tEnds hg0 ht0 hv0 hd0
  · exact one_iface gTerm tTerm hg2 ht2 hv2 hd2
  · exact one_iface gOn tOn hg1 ht1 hv1 hd1

theorem three_vars {H : Type} {enc : TypeId × Value → H} {P : Program} {W : World} {sp : Nat → Bool} {n1 n2 n3 : String} {gs : List (DataW H)} {q : List MemPlace} (h : DataW.TrodVars enc P W sp [n1, n2, n3] gs q) : ∃ a b c, gs = [a, b, c] := by
  cases gs with
  | nil => exact h.elim
  | cons a gs =>
    obtain ⟨_, _, _, _, _, _, _, _, _, _, h, _⟩ := h
    cases gs with
    | nil => exact h.elim
    | cons b gs =>
      obtain ⟨_, _, _, _, _, _, _, _, _, _, h, _⟩ := h
      cases gs with
      | nil => exact h.elim
      | cons c gs =>
        obtain ⟨_, _, _, _, _, _, _, _, _, _, h, _⟩ := h
        cases gs with
        | nil => exact ⟨a, b, c, rfl⟩
        | cons d gs => exact h.elim

theorem door_met (os : Os) (args : Array Value) : laidMetH Tryd.prog laid3 ((World.doorLaid Tryd.prog 400 os).forCall (fun _ _ => 0) ⟨#[], args, []⟩).memory :=
  laidMetH_of_parts3 (fuel := 8) (laidMet_of_run' 8 (by kernel_rfl) (by kernel_rfl)) (by kernel_rfl) (by kernel_rfl)

set_option maxRecDepth 100000 in
theorem fnExactTrmTake_lifted (os : Os) (started : os.Started) (H : Type) (enc : TypeId × Value → H) :
    ReturnsInHanded {} Tryd.checked os 4 .any (fun w args => (Rows.fnExactTrmTakeSpec.pre enc Tryd.prog Tryd.f4 [] false w args ∧ laidMetH Tryd.prog laid3 w) ∧ sizedMet enc Tryd.prog Tryd.f4 (OpenSpec.ofChange Rows.fnExactTrmTakeSpec) false w args)
      (Rows.fnExactTrmTakeSpec.post enc Tryd.prog Tryd.f4 false true false false) := by
  refine returnsInHanded_of_change_and (C := Tryd.checked) (X := fun w _ => laidMetH Tryd.prog laid3 w) (fun _ _ _ hh h => h.of_heap hh) own_knob started (by kernel_rfl) Tryd.func4
    (ChangeSpec.witness_shaped (enc := enc) (C := Tryd.checked) (os := os) (X := fun w _ => laidMetH Tryd.prog laid3 w) false (World.doorLaid Tryd.prog 400 os) #[.slice none 0 0] 8 rfl (World.shaped_of_RefB (by kernel_rfl) (by kernel_rfl)) (by kernel_rfl) (by kernel_rfl) (by kernel_rfl) (door_met os _)) ?_
  intro W base args ds gs before hval0 hW _ _ hL _
  have hval : ∀ (j : Nat) t v, Tryd.f4.params[j]? = some t → args[j]? = some v → Value.okWide Tryd.prog W .any base t v := hval0
  have hW' := hW
  obtain ⟨p, q, hA0, hV, rfl, hfz, hnd⟩ := hW
  have hA : DataW.TrodAll enc Tryd.prog W 0 (fun _ => true) true Tryd.f4.params.toList args.toList ds p := hA0
  rw [Tryd.params4] at hA hval
  obtain ⟨v0, vs0, d0, ds0, p0, q0, hargs, rfl, rfl, h0, r0⟩ := trodAll_cons hA
  obtain ⟨rfl, rfl, rfl⟩ := trodAll_nil r0
  obtain rfl : args = #[v0] := by cases args; simp_all
  obtain ⟨g1, g2, g3, rfl⟩ := three_vars hV
  obtain ⟨a0, len0, cap0, rfl⟩ := okWide_slice Tryd.underlying22 (hval 0 22 v0 rfl rfl)
  have k0 := h0
  have lt0 : ∀ x ∈ p0, x.block < W.heap.size := by obtain ⟨m, hm⟩ := k0; exact DataW.trod_lt m _ _ _ hm
  obtain ⟨z0, w0⟩ := open_bytes h0
  clear hA0 hval0
  refine (FnExactTrmTake_walk a0 len0 cap0 z0 W w0 (gl_of_laid hL)).mono fun e W' ⟨he, bel⟩ => ?_
  subst he
  exact ⟨_, rfl, _, _, _, [], _, q, hW', trodAll_mk1 (shut_bool Tryd.underlying4 _), (trodAll_cons_mk (Below.trod laid_out (by kernel_rfl) (of_decide_eq_true (by kernel_rfl)) k0 bel lt0) trodAll_mk0), Below.trodVars laid_out bel (by kernel_rfl) hV, bel.frame _, fun h => by cases h⟩

set_option maxRecDepth 100000 in
theorem fnExactTrmTake_over : Rows.FnExactTrmTakeSaid :=
  OpenClaim.holds_of_wide 4 Tryd.f4 rfl rfl rfl rfl rfl rfl rfl ⟨rfl, rfl, rfl, rfl, rfl⟩ rfl rfl rfl rfl rfl (by kernel_rfl) Tryd.func4 (joined_of (by kernel_rfl) rfl rfl)
    (of_decide_eq_true (by kernel_rfl)) (by unfold Func.isWrapper; first | (rw [if_pos (by decide +kernel)]; kernel_rfl) | (rw [if_neg (by decide +kernel)]; exact ⟨rfl, rfl⟩))
    (fun os started H enc _ => fnExactTrmTake_lifted os started H enc)

theorem fnExactTrmTake_holds : Rows.FnExactTrmTakeCardSaid :=
  Claim7.holds_tied_plain_at .later [] [.sentinel, .sentinel, .sentinel] true (true, "3343fb9a6e705f6df46bcee43bac88521f50cbb3a846ecf9feb93a8cbac6fb04") false
    fnExactTrmTake_over (fun _ h => by cases h) (by kernel_rfl) (fun _ h => by cases h) fnExactTrmTake_row_tie rfl ⟨rfl, rfl⟩ (by kernel_rfl) rfl
    (fun f fn hf hfn => by
      obtain rfl : f = 4 := Option.some.inj ((show Tryd.prog.funcNamed "loop.example/catechist/laws.FnExactTrmTake" = some 4 by kernel_rfl).symm.trans hf) |>.symm
      obtain rfl : fn = Tryd.f4 := (Option.some.inj (Tryd.func4.symm.trans hfn)).symm
      exact ⟨by kernel_rfl, fun j t ht => by
        rw [Tryd.params4] at ht
        have hm : t ∈ [22] := by simpa using Array.mem_of_getElem? ht
        have hall : ([22].all fun u => !Tryd.prog.wantsStandIn u) = true := by kernel_rfl
        exact (show Tryd.prog.wantsStandIn t = false by simpa using List.all_eq_true.1 hall t hm)⟩)
    (by kernel_rfl)
#print axioms fnExactTrmTake_holds
end Go.Proofs.YtjinbinnjpjniaaDoor
