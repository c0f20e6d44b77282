/- The walk of varsBelow: whether all variables of a tree are below a number. -/
import Derived.Test.YtkedckmpjedjoaaQG2GI1BR1FL5
namespace Go.Proofs.Ytkedckmpjedjoaa
open Go.RowKit Go.Shelf
set_option linter.unusedVariables false
set_option linter.unusedSimpArgs false
attribute [local go_sem] Oper.semAt_some

theorem results_boolG {fn : Func} {p : Tmp} (h : fn.results = #[.cell p 4]) (tmps : Array Value) (w : World) (a : Addr) (b : Bool) (hp : tmps[p]?.getD undef = .pointer (some a)) (hc : w.cell? a = some (.bool b)) :
    (results fn tmps).run Try.prog w = .ok (.bool b) w := by
  simp [results, h, hp, go_sem, hc]
theorem boxed_ownG {β : Type} (B : Nat) (t : TypeId) (f : β → Value) : Own (fun (s : β) W => Boxed W B t (f s)) := by
  intro s X Y row hv hg hrow
  refine hv.kept hg (fun e' => ?_)
  obtain ⟨o, ho, hc⟩ := hrow B e'.symm
  rw [show X.heap[B]? = _ from hv] at ho; cases ho; cases hc
theorem ownFrom_constG {β : Type} {B : Nat} {p : β → Prop} : OwnFrom B (fun x (_ : World) => p x) := fun _ _ _ _ h _ _ => h
theorem shut_belowG {w W : World} {D : Nat} (h : Below w.heap.size w W) (hb : w.heap.size ≤ D) (hD : W.heap[D]? = some (.deferred (some []))) : Below w.heap.size w (W.putObj D (.deferred none)) := h.trans (belowK_b (w := w) (Nat.le_refl _) _ D _ _ hb hD rfl rfl)
theorem boxed_shutG {W : World} {B D : Nat} {T : TypeId} {u : Value} (h : Boxed W B T u) (hD : W.heap[D]? = some (.deferred (some []))) : Boxed (W.putObj D (.deferred none)) B T u := by
  have hne : B ≠ D := fun e => by subst e; rw [show W.heap[B]? = _ from h] at hD; cases hD
  show (W.putObj D _).heap[B]? = _
  simp only [World.putObj]
  rw [Array.getElem?_setIfInBounds_ne (fun e => hne e.symm)]
  exact h

/-- A place has a variable that is not below a number. -/
def overC (n : Int) (c : C) : Bool := decide (c.k = 1) && decide (n ≤ c.n)

set_option maxRecDepth 100000 in
set_option maxHeartbeats 4000000 in
theorem varsBelow_any (f p : Nat) (z : List (Nat × C)) (n : Int) (w : World) (hS : Shp w.heap.size w f p (z.map (·.1))) (hH : ∀ x ∈ z, Held w.heap.size w x) (hlen : z.length ≤ 1048576) :
    Calls Try.prog 191 #[.pointer (some ⟨p, 0, none⟩), .int .i64 n] w fun e w' => e = .returned (.bool (!(z.any fun x => overC n x.2))) ∧ Below w.heap.size w w' := by
  obtain ⟨xs, hxs⟩ := lift_sub z hH
  refine (callsIn_wide (n := 5)).1 ?_
  refine callsIn_of_wp_marks Try.func191 rfl trivial ?_ rfl
  simp only [Try.ntmps191, List.size_toArray, List.length_cons, List.length_nil, Nat.reduceAdd, Nat.reduceSub, Array.replicate_succ, Array.replicate_zero, List.push_toArray, List.append_toArray, List.nil_append, List.cons_append]
  gi_wp2_with (refine ⟨trivial, ?_⟩; gi_at_call 170; refine (nodes_in Fence.wide _ trivial rfl _ _).mono ?_; rintro e w' ⟨rfl, rfl⟩)
  have hB0 : Below w.heap.size w (((w.alloc (.cells #[.int .i64 n] 3)).alloc (.cells #[.bool false] 4)).alloc (.cells #[.pointer (some ⟨p, 0, none⟩)] 100)) := (((Below.refl _ w).alloc (Nat.le_refl _) _).alloc (by simp) _).alloc (by simp; omega) _
  have bA := Boxed.new w 3 (.int .i64 n)
  have bB := Boxed.new (w.alloc (.cells #[.int .i64 n] 3)) 4 (.bool false)
  have bN := Boxed.new ((w.alloc (.cells #[.int .i64 n] 3)).alloc (.cells #[.bool false] 4)) 100 (.pointer (some ⟨p, 0, none⟩))
  have bA3 := (bA.alloc (.cells #[.bool false] 4)).alloc (.cells #[.pointer (some ⟨p, 0, none⟩)] 100)
  have bB3 := bB.alloc (.cells #[.pointer (some ⟨p, 0, none⟩)] 100)
  simp only [World.size_alloc] at bN bB3
  have hxl : xs.length ≤ 1048576 := by rw [← hxs] at hlen; simpa using hlen
  obtain ⟨w0, hw0⟩ : ∃ w0, w0 = (((w.alloc (.cells #[.int .i64 n] 3)).alloc (.cells #[.bool false] 4)).alloc (.cells #[.pointer (some ⟨p, 0, none⟩)] 100)) := ⟨_, rfl⟩
  have hsz0 : w0.heap.size = w.heap.size + 1 + 1 + 1 := by rw [hw0]; simp
  rw [← hw0] at hB0 bA3 bB3 bN ⊢
  clear hw0 bA bB
  refine wpIn_rangeFunc_ownG rfl (by omega) (gf := 183) (lb := #[.pointer (some ⟨w.heap.size + 1 + 1, 0, none⟩)]) rfl trivial (enters_of Try.func183 (by kernel_rfl) rfl)
    (nodes_stops (fun x : {x : Nat × C // Held w.heap.size w x} => x.1.1) Fence.wide rfl _ trivial trivial rfl (w.heap.size + 1 + 1) w.heap.size f p _ xs _ (by omega) (by omega) bN.cell (hS.below hB0) (by rw [← hxs]; simp)) kpsK_t (kpsK_b (by omega)) (Below.refl _ _) (fun _ => rfl)
    (fun pre W => Below w0.heap.size w0 W ∧ ∀ y ∈ pre, overC n y.1.2 = false)
    (fun c pre W => ((c = .ret ∧ ∃ y ∈ pre, overC n y.1.2 = true) ∧ Boxed W (w.heap.size + 1) 4 (.bool false)) ∧ Below w.heap.size w W)
    (OwnFrom.and (ownFrom_below (by omega) (by omega)) ownFrom_constG)
    (fun c => OwnFrom.and (OwnFrom.and ownFrom_constG (Own.from (boxed_ownG (w.heap.size + 1) 4 (fun _ => .bool false)) _)) (ownFrom_below (Nat.le_refl _) (by omega)))
    ⟨Below.refl _ _, by simp⟩
    ?a1 ?assign ?body ?done ?stop
  case assign =>
    intro l x W K hK
    gi_wp2
    exact hK
  case body =>
    rintro l pre y W ⟨hW, hpre⟩ hlt
    obtain ⟨⟨g1, c⟩, hy⟩ := y
    have hBW : Below w.heap.size w W := hB0.trans (hW.mono (by omega))
    obtain ⟨_, h0, h1, h2⟩ := hy.below hBW
    dsimp only at h0 h1 h2
    have bAW : Boxed W w.heap.size 3 (.int .i64 n) := (hW.block _ (by omega)).trans bA3
    have bBW : Boxed W (w.heap.size + 1) 4 (.bool false) := (hW.block _ (by omega)).trans bB3
    have cA := bAW.cell
    have cB := bBW.cell
    have fB := bBW.frozen
    have hltB := bBW.lt
    by_cases hk1 : c.k = 1
    · have hk1b : (c.k == 1) = true := by simpa using hk1
      by_cases hge : n ≤ c.n
      · have hov : overC n c = true := by simp [overC, hk1, hge]
        have HFIN : Hid (KeepsFrom w0.heap.size W (W.setCell ⟨w.heap.size + 1, 0, none⟩ (.bool false)).drew ∧ (((Code.ret = Code.ret ∧ ∃ y ∈ (pre ++ [(⟨(g1, c), hy⟩ : {x : Nat × C // Held w.heap.size w x})]), overC n y.1.2 = true) ∧ Boxed (W.setCell ⟨w.heap.size + 1, 0, none⟩ (.bool false)).drew (w.heap.size + 1) 4 (.bool false)) ∧ Below w.heap.size w (W.setCell ⟨w.heap.size + 1, 0, none⟩ (.bool false)).drew)) := by
          refine ⟨((KeepsOthers.setCell W _ _).trans (KeepsOthers.drew _)).from _, ⟨⟨rfl, ⟨⟨(g1, c), hy⟩, by simp, hov⟩⟩, Boxed.set (W := W) _ bBW⟩, (hBW.setCell (p := ⟨w.heap.size + 1, 0, none⟩) (by simp) _).drew⟩
        clear hov hpre hk1
        gi_wp2
        refine region_in (fun w' => w' = W.drew) (by kernel_rfl) (by intro o ho c; simp at ho; rcases ho with (rfl | ho) <;> first | (simp; done) | (revert ho; intro ho; repeat' (rcases ho with (rfl | ho))) <;> simp_all) ?_
        refine wpAnyH_take (i := 0) (v := ?v0) rfl (by kernel_rfl) (by kernel_rfl) (by kernel_rfl) (fun _ _ _ h => quiet_panic h) (Or.inl ⟨by rfl, ?y0⟩) rfl ?_
        case y0 => (intro w' hw'; subst hw'; go_simp; first | done | with_reducible rfl | exact hk1 | omega)
        simp only [Act.put, List.getElem_toArray, List.getElem_cons_zero, List.getElem_cons_succ, List.setIfInBounds_toArray, List.set_cons_zero, List.set_cons_succ]
        refine wpAnyH_take (i := 1) (v := ?v1) rfl (by kernel_rfl) (by kernel_rfl) (by kernel_rfl) (fun _ _ _ h => quiet_panic h) (Or.inl ⟨by rfl, ?y1⟩) rfl ?_
        case y1 => (intro w' hw'; subst hw'; go_simp; first | done | with_reducible rfl | exact hk1 | omega)
        simp only [Act.put, List.getElem_toArray, List.getElem_cons_zero, List.getElem_cons_succ, List.setIfInBounds_toArray, List.set_cons_zero, List.set_cons_succ]
        refine wpAnyH_take (i := 2) (v := ?v2) rfl (by kernel_rfl) (by kernel_rfl) (by kernel_rfl) (fun _ _ _ h => quiet_panic h) (Or.inl ⟨by rfl, ?y2⟩) rfl ?_
        case y2 => (intro w' hw'; subst hw'; go_simp; first | done | with_reducible rfl | exact hk1 | omega)
        simp only [Act.put, List.getElem_toArray, List.getElem_cons_zero, List.getElem_cons_succ, List.setIfInBounds_toArray, List.set_cons_zero, List.set_cons_succ]
        refine wpAnyH_take (i := 3) (v := ?v3) rfl (by kernel_rfl) (by kernel_rfl) (by kernel_rfl) (fun _ _ _ h => quiet_panic h) (Or.inl ⟨by rfl, ?y3⟩) rfl ?_
        case y3 => (intro w' hw'; subst hw'; go_simp; first | done | with_reducible rfl | exact hk1 | omega)
        simp only [Act.put, List.getElem_toArray, List.getElem_cons_zero, List.getElem_cons_succ, List.setIfInBounds_toArray, List.set_cons_zero, List.set_cons_succ]
        refine wpAnyH_take (i := 4) (v := (.int .i64 c.k)) rfl (by kernel_rfl) (by kernel_rfl) (by kernel_rfl) (fun _ _ _ h => quiet_panic h) (Or.inl ⟨by rfl, ?y4⟩) rfl ?_
        case y4 => (intro w' hw'; subst hw'; go_simp; first | done | with_reducible rfl | exact hk1 | omega)
        simp only [Act.put, List.getElem_toArray, List.getElem_cons_zero, List.getElem_cons_succ, List.setIfInBounds_toArray, List.set_cons_zero, List.set_cons_succ]
        refine wpAnyH_take (i := 5) (v := (.bool true)) rfl (by kernel_rfl) (by kernel_rfl) (by kernel_rfl) (fun _ _ _ h => quiet_panic h) (Or.inl ⟨by rfl, ?y5⟩) rfl ?_
        case y5 => (intro w' hw'; subst hw'; go_simp; first | done | with_reducible rfl | exact hk1 | omega)
        simp only [Act.put, List.getElem_toArray, List.getElem_cons_zero, List.getElem_cons_succ, List.setIfInBounds_toArray, List.set_cons_zero, List.set_cons_succ]
        refine wpAnyH_take (i := 6) (v := ?v6) rfl (by kernel_rfl) (by kernel_rfl) (by kernel_rfl) (fun _ _ _ h => quiet_panic h) (Or.inl ⟨by rfl, ?y6⟩) rfl ?_
        case y6 => (intro w' hw'; subst hw'; go_simp; first | done | with_reducible rfl | exact hk1 | omega)
        simp only [Act.put, List.getElem_toArray, List.getElem_cons_zero, List.getElem_cons_succ, List.setIfInBounds_toArray, List.set_cons_zero, List.set_cons_succ]
        refine wpAnyH_take (i := 7) (v := ?v7) rfl (by kernel_rfl) (by kernel_rfl) (by kernel_rfl) (fun _ _ _ h => quiet_panic h) (Or.inl ⟨by rfl, ?y7⟩) rfl ?_
        case y7 => (intro w' hw'; subst hw'; go_simp; first | done | with_reducible rfl | exact hk1 | omega)
        simp only [Act.put, List.getElem_toArray, List.getElem_cons_zero, List.getElem_cons_succ, List.setIfInBounds_toArray, List.set_cons_zero, List.set_cons_succ]
        refine wpAnyH_take (i := 8) (v := ?v8) rfl (by kernel_rfl) (by kernel_rfl) (by kernel_rfl) (fun _ _ _ h => quiet_panic h) (Or.inl ⟨by rfl, ?y8⟩) rfl ?_
        case y8 => (intro w' hw'; subst hw'; go_simp; first | done | with_reducible rfl | exact hk1 | omega)
        simp only [Act.put, List.getElem_toArray, List.getElem_cons_zero, List.getElem_cons_succ, List.setIfInBounds_toArray, List.set_cons_zero, List.set_cons_succ]
        refine wpAnyH_take (i := 9) (v := ?v9) rfl (by kernel_rfl) (by kernel_rfl) (by kernel_rfl) (fun _ _ _ h => quiet_panic h) (Or.inl ⟨by rfl, ?y9⟩) rfl ?_
        case y9 => (intro w' hw'; subst hw'; go_simp; first | done | with_reducible rfl | exact hk1 | omega)
        simp only [Act.put, List.getElem_toArray, List.getElem_cons_zero, List.getElem_cons_succ, List.setIfInBounds_toArray, List.set_cons_zero, List.set_cons_succ]
        refine wpAnyH_take (i := 10) (v := ?v10) rfl (by kernel_rfl) (by kernel_rfl) (by kernel_rfl) (fun _ _ _ h => quiet_panic h) (Or.inl ⟨by rfl, ?y10⟩) rfl ?_
        case y10 => (intro w' hw'; subst hw'; go_simp; first | done | with_reducible rfl | exact hk1 | omega)
        simp only [Act.put, List.getElem_toArray, List.getElem_cons_zero, List.getElem_cons_succ, List.setIfInBounds_toArray, List.set_cons_zero, List.set_cons_succ]
        refine wpAnyH_take (i := 11) (v := (.int .i64 c.n)) rfl (by kernel_rfl) (by kernel_rfl) (by kernel_rfl) (fun _ _ _ h => quiet_panic h) (Or.inl ⟨by rfl, ?y11⟩) rfl ?_
        case y11 => (intro w' hw'; subst hw'; go_simp; first | done | with_reducible rfl | exact hk1 | omega)
        simp only [Act.put, List.getElem_toArray, List.getElem_cons_zero, List.getElem_cons_succ, List.setIfInBounds_toArray, List.set_cons_zero, List.set_cons_succ]
        refine wpAnyH_take (i := 12) (v := (.int .i64 n)) rfl (by kernel_rfl) (by kernel_rfl) (by kernel_rfl) (fun _ _ _ h => quiet_panic h) (Or.inl ⟨by rfl, ?y12⟩) rfl ?_
        case y12 => (intro w' hw'; subst hw'; go_simp; first | done | with_reducible rfl | exact hk1 | omega)
        simp only [Act.put, List.getElem_toArray, List.getElem_cons_zero, List.getElem_cons_succ, List.setIfInBounds_toArray, List.set_cons_zero, List.set_cons_succ]
        refine wpAnyH_take (i := 13) (v := (.bool true)) rfl (by kernel_rfl) (by kernel_rfl) (by kernel_rfl) (fun _ _ _ h => quiet_panic h) (Or.inl ⟨by rfl, ?y13⟩) rfl ?_
        case y13 => (intro w' hw'; subst hw'; go_simp; first | done | with_reducible rfl | exact hk1 | omega)
        simp only [Act.put, List.getElem_toArray, List.getElem_cons_zero, List.getElem_cons_succ, List.setIfInBounds_toArray, List.set_cons_zero, List.set_cons_succ]
        refine wpAnyH_take (i := 14) (v := (.bool true)) rfl (by kernel_rfl) (by kernel_rfl) (by kernel_rfl) (fun _ _ _ h => quiet_panic h) (Or.inl ⟨by rfl, ?y14⟩) rfl ?_
        case y14 => (intro w' hw'; subst hw'; go_simp; first | done | with_reducible rfl | exact hk1 | omega)
        simp only [Act.put, List.getElem_toArray, List.getElem_cons_zero, List.getElem_cons_succ, List.setIfInBounds_toArray, List.set_cons_zero, List.set_cons_succ]
        refine wpAnyH_done (by kernel_rfl) ?_ _
        refine ⟨rfl, ?_⟩
        gi_wp2
        refine And.intro ?_ ?_
        · have r1 := (unhide HFIN).1
          simpa using r1
        · have r2 := (unhide HFIN).2
          exact ⟨⟨⟨rfl, r2.1.1.2⟩, r2.1.2⟩, r2.2⟩
      · have hov : overC n c = false := by simp [overC, hge]
        have HFIN : Hid (KeepsFrom w0.heap.size W W.drew ∧ KpS w.heap.size W W.drew ∧ (Below w0.heap.size w0 W.drew ∧ ∀ y ∈ pre ++ [(⟨(g1, c), hy⟩ : {x : Nat × C // Held w.heap.size w x})], overC n y.1.2 = false)) := by
          refine ⟨(KeepsOthers.drew W).from _, KpS.of_below ((Below.refl _ W).drew), hW.drew, fun y hy' => ?_⟩
          rcases List.mem_append.1 hy' with h | h
          · exact hpre y h
          · simp at h; subst h; exact hov
        clear hov hpre hk1
        gi_wp2
        refine region_in (fun w' => w' = W.drew) (by kernel_rfl) (by intro o ho c; simp at ho; rcases ho with (rfl | ho) <;> first | (simp; done) | (revert ho; intro ho; repeat' (rcases ho with (rfl | ho))) <;> simp_all) ?_
        refine wpAnyH_take (i := 0) (v := ?v0) rfl (by kernel_rfl) (by kernel_rfl) (by kernel_rfl) (fun _ _ _ h => quiet_panic h) (Or.inl ⟨by rfl, ?y0⟩) rfl ?_
        case y0 => (intro w' hw'; subst hw'; go_simp; first | done | with_reducible rfl | exact hk1 | omega)
        simp only [Act.put, List.getElem_toArray, List.getElem_cons_zero, List.getElem_cons_succ, List.setIfInBounds_toArray, List.set_cons_zero, List.set_cons_succ]
        refine wpAnyH_take (i := 1) (v := ?v1) rfl (by kernel_rfl) (by kernel_rfl) (by kernel_rfl) (fun _ _ _ h => quiet_panic h) (Or.inl ⟨by rfl, ?y1⟩) rfl ?_
        case y1 => (intro w' hw'; subst hw'; go_simp; first | done | with_reducible rfl | exact hk1 | omega)
        simp only [Act.put, List.getElem_toArray, List.getElem_cons_zero, List.getElem_cons_succ, List.setIfInBounds_toArray, List.set_cons_zero, List.set_cons_succ]
        refine wpAnyH_take (i := 2) (v := ?v2) rfl (by kernel_rfl) (by kernel_rfl) (by kernel_rfl) (fun _ _ _ h => quiet_panic h) (Or.inl ⟨by rfl, ?y2⟩) rfl ?_
        case y2 => (intro w' hw'; subst hw'; go_simp; first | done | with_reducible rfl | exact hk1 | omega)
        simp only [Act.put, List.getElem_toArray, List.getElem_cons_zero, List.getElem_cons_succ, List.setIfInBounds_toArray, List.set_cons_zero, List.set_cons_succ]
        refine wpAnyH_take (i := 3) (v := ?v3) rfl (by kernel_rfl) (by kernel_rfl) (by kernel_rfl) (fun _ _ _ h => quiet_panic h) (Or.inl ⟨by rfl, ?y3⟩) rfl ?_
        case y3 => (intro w' hw'; subst hw'; go_simp; first | done | with_reducible rfl | exact hk1 | omega)
        simp only [Act.put, List.getElem_toArray, List.getElem_cons_zero, List.getElem_cons_succ, List.setIfInBounds_toArray, List.set_cons_zero, List.set_cons_succ]
        refine wpAnyH_take (i := 4) (v := (.int .i64 c.k)) rfl (by kernel_rfl) (by kernel_rfl) (by kernel_rfl) (fun _ _ _ h => quiet_panic h) (Or.inl ⟨by rfl, ?y4⟩) rfl ?_
        case y4 => (intro w' hw'; subst hw'; go_simp; first | done | with_reducible rfl | exact hk1 | omega)
        simp only [Act.put, List.getElem_toArray, List.getElem_cons_zero, List.getElem_cons_succ, List.setIfInBounds_toArray, List.set_cons_zero, List.set_cons_succ]
        refine wpAnyH_take (i := 5) (v := (.bool true)) rfl (by kernel_rfl) (by kernel_rfl) (by kernel_rfl) (fun _ _ _ h => quiet_panic h) (Or.inl ⟨by rfl, ?y5⟩) rfl ?_
        case y5 => (intro w' hw'; subst hw'; go_simp; first | done | with_reducible rfl | exact hk1 | omega)
        simp only [Act.put, List.getElem_toArray, List.getElem_cons_zero, List.getElem_cons_succ, List.setIfInBounds_toArray, List.set_cons_zero, List.set_cons_succ]
        refine wpAnyH_take (i := 6) (v := ?v6) rfl (by kernel_rfl) (by kernel_rfl) (by kernel_rfl) (fun _ _ _ h => quiet_panic h) (Or.inl ⟨by rfl, ?y6⟩) rfl ?_
        case y6 => (intro w' hw'; subst hw'; go_simp; first | done | with_reducible rfl | exact hk1 | omega)
        simp only [Act.put, List.getElem_toArray, List.getElem_cons_zero, List.getElem_cons_succ, List.setIfInBounds_toArray, List.set_cons_zero, List.set_cons_succ]
        refine wpAnyH_take (i := 7) (v := ?v7) rfl (by kernel_rfl) (by kernel_rfl) (by kernel_rfl) (fun _ _ _ h => quiet_panic h) (Or.inl ⟨by rfl, ?y7⟩) rfl ?_
        case y7 => (intro w' hw'; subst hw'; go_simp; first | done | with_reducible rfl | exact hk1 | omega)
        simp only [Act.put, List.getElem_toArray, List.getElem_cons_zero, List.getElem_cons_succ, List.setIfInBounds_toArray, List.set_cons_zero, List.set_cons_succ]
        refine wpAnyH_take (i := 8) (v := ?v8) rfl (by kernel_rfl) (by kernel_rfl) (by kernel_rfl) (fun _ _ _ h => quiet_panic h) (Or.inl ⟨by rfl, ?y8⟩) rfl ?_
        case y8 => (intro w' hw'; subst hw'; go_simp; first | done | with_reducible rfl | exact hk1 | omega)
        simp only [Act.put, List.getElem_toArray, List.getElem_cons_zero, List.getElem_cons_succ, List.setIfInBounds_toArray, List.set_cons_zero, List.set_cons_succ]
        refine wpAnyH_take (i := 9) (v := ?v9) rfl (by kernel_rfl) (by kernel_rfl) (by kernel_rfl) (fun _ _ _ h => quiet_panic h) (Or.inl ⟨by rfl, ?y9⟩) rfl ?_
        case y9 => (intro w' hw'; subst hw'; go_simp; first | done | with_reducible rfl | exact hk1 | omega)
        simp only [Act.put, List.getElem_toArray, List.getElem_cons_zero, List.getElem_cons_succ, List.setIfInBounds_toArray, List.set_cons_zero, List.set_cons_succ]
        refine wpAnyH_take (i := 10) (v := ?v10) rfl (by kernel_rfl) (by kernel_rfl) (by kernel_rfl) (fun _ _ _ h => quiet_panic h) (Or.inl ⟨by rfl, ?y10⟩) rfl ?_
        case y10 => (intro w' hw'; subst hw'; go_simp; first | done | with_reducible rfl | exact hk1 | omega)
        simp only [Act.put, List.getElem_toArray, List.getElem_cons_zero, List.getElem_cons_succ, List.setIfInBounds_toArray, List.set_cons_zero, List.set_cons_succ]
        refine wpAnyH_take (i := 11) (v := (.int .i64 c.n)) rfl (by kernel_rfl) (by kernel_rfl) (by kernel_rfl) (fun _ _ _ h => quiet_panic h) (Or.inl ⟨by rfl, ?y11⟩) rfl ?_
        case y11 => (intro w' hw'; subst hw'; go_simp; first | done | with_reducible rfl | exact hk1 | omega)
        simp only [Act.put, List.getElem_toArray, List.getElem_cons_zero, List.getElem_cons_succ, List.setIfInBounds_toArray, List.set_cons_zero, List.set_cons_succ]
        refine wpAnyH_take (i := 12) (v := (.int .i64 n)) rfl (by kernel_rfl) (by kernel_rfl) (by kernel_rfl) (fun _ _ _ h => quiet_panic h) (Or.inl ⟨by rfl, ?y12⟩) rfl ?_
        case y12 => (intro w' hw'; subst hw'; go_simp; first | done | with_reducible rfl | exact hk1 | omega)
        simp only [Act.put, List.getElem_toArray, List.getElem_cons_zero, List.getElem_cons_succ, List.setIfInBounds_toArray, List.set_cons_zero, List.set_cons_succ]
        refine wpAnyH_take (i := 13) (v := (.bool false)) rfl (by kernel_rfl) (by kernel_rfl) (by kernel_rfl) (fun _ _ _ h => quiet_panic h) (Or.inl ⟨by rfl, ?y13⟩) rfl ?_
        case y13 => (intro w' hw'; subst hw'; go_simp; first | done | with_reducible rfl | exact hk1 | omega)
        simp only [Act.put, List.getElem_toArray, List.getElem_cons_zero, List.getElem_cons_succ, List.setIfInBounds_toArray, List.set_cons_zero, List.set_cons_succ]
        refine wpAnyH_take (i := 14) (v := (.bool false)) rfl (by kernel_rfl) (by kernel_rfl) (by kernel_rfl) (fun _ _ _ h => quiet_panic h) (Or.inl ⟨by rfl, ?y14⟩) rfl ?_
        case y14 => (intro w' hw'; subst hw'; go_simp; first | done | with_reducible rfl | exact hk1 | omega)
        simp only [Act.put, List.getElem_toArray, List.getElem_cons_zero, List.getElem_cons_succ, List.setIfInBounds_toArray, List.set_cons_zero, List.set_cons_succ]
        refine wpAnyH_done (by kernel_rfl) ?_ _
        refine ⟨rfl, ?_⟩
        gi_wp2
        exact unhide HFIN
    · have hk1b : (c.k == 1) = false := by simpa using hk1
      have hov : overC n c = false := by simp [overC, hk1]
      have HFIN : Hid (KeepsFrom w0.heap.size W W.drew ∧ KpS w.heap.size W W.drew ∧ (Below w0.heap.size w0 W.drew ∧ ∀ y ∈ pre ++ [(⟨(g1, c), hy⟩ : {x : Nat × C // Held w.heap.size w x})], overC n y.1.2 = false)) := by
        refine ⟨(KeepsOthers.drew W).from _, KpS.of_below ((Below.refl _ W).drew), hW.drew, fun y hy' => ?_⟩
        rcases List.mem_append.1 hy' with h | h
        · exact hpre y h
        · simp at h; subst h; exact hov
      clear hov hpre
      gi_wp2
      refine region_in (fun w' => w' = W.drew) (by kernel_rfl) (by intro o ho c; simp at ho; rcases ho with (rfl | ho) <;> first | (simp; done) | (revert ho; intro ho; repeat' (rcases ho with (rfl | ho))) <;> simp_all) ?_
      refine wpAnyH_take (i := 0) (v := ?v0) rfl (by kernel_rfl) (by kernel_rfl) (by kernel_rfl) (fun _ _ _ h => quiet_panic h) (Or.inl ⟨by rfl, ?y0⟩) rfl ?_
      case y0 => (intro w' hw'; subst hw'; go_simp; first | done | with_reducible rfl | exact hk1 | omega)
      simp only [Act.put, List.getElem_toArray, List.getElem_cons_zero, List.getElem_cons_succ, List.setIfInBounds_toArray, List.set_cons_zero, List.set_cons_succ]
      refine wpAnyH_take (i := 1) (v := ?v1) rfl (by kernel_rfl) (by kernel_rfl) (by kernel_rfl) (fun _ _ _ h => quiet_panic h) (Or.inl ⟨by rfl, ?y1⟩) rfl ?_
      case y1 => (intro w' hw'; subst hw'; go_simp; first | done | with_reducible rfl | exact hk1 | omega)
      simp only [Act.put, List.getElem_toArray, List.getElem_cons_zero, List.getElem_cons_succ, List.setIfInBounds_toArray, List.set_cons_zero, List.set_cons_succ]
      refine wpAnyH_take (i := 2) (v := ?v2) rfl (by kernel_rfl) (by kernel_rfl) (by kernel_rfl) (fun _ _ _ h => quiet_panic h) (Or.inl ⟨by rfl, ?y2⟩) rfl ?_
      case y2 => (intro w' hw'; subst hw'; go_simp; first | done | with_reducible rfl | exact hk1 | omega)
      simp only [Act.put, List.getElem_toArray, List.getElem_cons_zero, List.getElem_cons_succ, List.setIfInBounds_toArray, List.set_cons_zero, List.set_cons_succ]
      refine wpAnyH_take (i := 3) (v := ?v3) rfl (by kernel_rfl) (by kernel_rfl) (by kernel_rfl) (fun _ _ _ h => quiet_panic h) (Or.inl ⟨by rfl, ?y3⟩) rfl ?_
      case y3 => (intro w' hw'; subst hw'; go_simp; first | done | with_reducible rfl | exact hk1 | omega)
      simp only [Act.put, List.getElem_toArray, List.getElem_cons_zero, List.getElem_cons_succ, List.setIfInBounds_toArray, List.set_cons_zero, List.set_cons_succ]
      refine wpAnyH_take (i := 4) (v := (.int .i64 c.k)) rfl (by kernel_rfl) (by kernel_rfl) (by kernel_rfl) (fun _ _ _ h => quiet_panic h) (Or.inl ⟨by rfl, ?y4⟩) rfl ?_
      case y4 => (intro w' hw'; subst hw'; go_simp; first | done | with_reducible rfl | exact hk1 | omega)
      simp only [Act.put, List.getElem_toArray, List.getElem_cons_zero, List.getElem_cons_succ, List.setIfInBounds_toArray, List.set_cons_zero, List.set_cons_succ]
      refine wpAnyH_take (i := 5) (v := (.bool false)) rfl (by kernel_rfl) (by kernel_rfl) (by kernel_rfl) (fun _ _ _ h => quiet_panic h) (Or.inl ⟨by rfl, ?y5⟩) rfl ?_
      case y5 => (intro w' hw'; subst hw'; go_simp; first | done | with_reducible rfl | exact hk1 | omega)
      simp only [Act.put, List.getElem_toArray, List.getElem_cons_zero, List.getElem_cons_succ, List.setIfInBounds_toArray, List.set_cons_zero, List.set_cons_succ]
      refine wpAnyH_take (i := 6) (v := (.bool false)) rfl (by kernel_rfl) (by kernel_rfl) (by kernel_rfl) (fun _ _ _ h => quiet_panic h) (Or.inl ⟨by rfl, ?y6⟩) rfl ?_
      case y6 => (intro w' hw'; subst hw'; go_simp; first | done | with_reducible rfl | exact hk1 | omega)
      simp only [Act.put, List.getElem_toArray, List.getElem_cons_zero, List.getElem_cons_succ, List.setIfInBounds_toArray, List.set_cons_zero, List.set_cons_succ]
      refine wpAnyH_take (i := 7) (v := undef) rfl (by kernel_rfl) (by kernel_rfl) (by kernel_rfl) (fun _ _ _ h => quiet_panic h) (Or.inr ⟨by rfl, rfl⟩) rfl ?_
      simp only [Act.put, List.getElem_toArray, List.getElem_cons_zero, List.getElem_cons_succ, List.setIfInBounds_toArray, List.set_cons_zero, List.set_cons_succ]
      refine wpAnyH_take (i := 8) (v := undef) rfl (by kernel_rfl) (by kernel_rfl) (by kernel_rfl) (fun _ _ _ h => quiet_panic h) (Or.inr ⟨by rfl, rfl⟩) rfl ?_
      simp only [Act.put, List.getElem_toArray, List.getElem_cons_zero, List.getElem_cons_succ, List.setIfInBounds_toArray, List.set_cons_zero, List.set_cons_succ]
      refine wpAnyH_take (i := 9) (v := undef) rfl (by kernel_rfl) (by kernel_rfl) (by kernel_rfl) (fun _ _ _ h => quiet_panic h) (Or.inr ⟨by rfl, rfl⟩) rfl ?_
      simp only [Act.put, List.getElem_toArray, List.getElem_cons_zero, List.getElem_cons_succ, List.setIfInBounds_toArray, List.set_cons_zero, List.set_cons_succ]
      refine wpAnyH_take (i := 10) (v := undef) rfl (by kernel_rfl) (by kernel_rfl) (by kernel_rfl) (fun _ _ _ h => quiet_panic h) (Or.inr ⟨by rfl, rfl⟩) rfl ?_
      simp only [Act.put, List.getElem_toArray, List.getElem_cons_zero, List.getElem_cons_succ, List.setIfInBounds_toArray, List.set_cons_zero, List.set_cons_succ]
      refine wpAnyH_take (i := 11) (v := undef) rfl (by kernel_rfl) (by kernel_rfl) (by kernel_rfl) (fun _ _ _ h => quiet_panic h) (Or.inr ⟨by rfl, rfl⟩) rfl ?_
      simp only [Act.put, List.getElem_toArray, List.getElem_cons_zero, List.getElem_cons_succ, List.setIfInBounds_toArray, List.set_cons_zero, List.set_cons_succ]
      refine wpAnyH_take (i := 12) (v := undef) rfl (by kernel_rfl) (by kernel_rfl) (by kernel_rfl) (fun _ _ _ h => quiet_panic h) (Or.inr ⟨by rfl, rfl⟩) rfl ?_
      simp only [Act.put, List.getElem_toArray, List.getElem_cons_zero, List.getElem_cons_succ, List.setIfInBounds_toArray, List.set_cons_zero, List.set_cons_succ]
      refine wpAnyH_take (i := 13) (v := undef) rfl (by kernel_rfl) (by kernel_rfl) (by kernel_rfl) (fun _ _ _ h => quiet_panic h) (Or.inr ⟨by rfl, rfl⟩) rfl ?_
      simp only [Act.put, List.getElem_toArray, List.getElem_cons_zero, List.getElem_cons_succ, List.setIfInBounds_toArray, List.set_cons_zero, List.set_cons_succ]
      refine wpAnyH_take (i := 14) (v := (.bool false)) rfl (by kernel_rfl) (by kernel_rfl) (by kernel_rfl) (fun _ _ _ h => quiet_panic h) (Or.inl ⟨by rfl, ?y14⟩) rfl ?_
      case y14 => (intro w' hw'; subst hw'; go_simp; first | done | with_reducible rfl | exact hk1 | omega)
      simp only [Act.put, List.getElem_toArray, List.getElem_cons_zero, List.getElem_cons_succ, List.setIfInBounds_toArray, List.set_cons_zero, List.set_cons_succ]
      refine wpAnyH_done (by kernel_rfl) ?_ _
      refine ⟨rfl, ?_⟩
      gi_wp2
      exact unhide HFIN
  case done =>
    rintro D' ys W hD rfl ⟨hW, hall⟩ hK
    have hDl : D' < W.heap.size := (Array.getElem?_eq_some_iff.1 hK).1
    have hBW : Below w.heap.size w W := hB0.trans (hW.mono (by omega))
    have bBW : Boxed W (w.heap.size + 1) 4 (.bool false) := (hW.block _ (by omega)).trans bB3
    have cB := bBW.cell
    have fB := bBW.frozen
    have HR : Hid ((!(z.any fun x => overC n x.2)) = true) := by
      show (!(z.any fun x => overC n x.2)) = true
      rw [Bool.not_eq_true', List.any_eq_false]
      intro x hx
      rw [← hxs] at hx
      obtain ⟨y, hy, rfl⟩ := List.mem_map.1 hx
      rw [hall y hy]
      simp
    have HM : Hid (Marked w.heap.size W.heap.size (W.setCell ⟨w.heap.size + 1, 0, none⟩ (.bool true)) [{ target := .collected D', args := #[] }]) := ((Marked.nil w.heap.size w.heap.size W).push (by omega) (by omega) hDl hK).keeps (KeepsOthers.setCell W _ _)
    have HBB : Hid (Boxed (W.setCell ⟨w.heap.size + 1, 0, none⟩ (.bool true)) (w.heap.size + 1) 4 (.bool true)) := Boxed.set (W := W) _ bBW
    have HBL : Hid (Below w.heap.size w (W.setCell ⟨w.heap.size + 1, 0, none⟩ (.bool true))) := hBW.setCell (p := ⟨w.heap.size + 1, 0, none⟩) (by simp) _
    clear hall
    gi_wp2
    exact (unhide HM).leaves (fun W => Boxed W (w.heap.size + 1) 4 (.bool true) ∧ Below w.heap.size w W) (fun W D hg hb hD => ⟨boxed_shutG hg.1 hD, shut_belowG hg.2 hb hD⟩) (fun W hg => ⟨.bool true, results_boolG (p := 4) rfl _ _ ⟨w.heap.size + 1, 0, none⟩ _ rfl hg.1.cell, by rw [unhide HR], hg.2⟩) ⟨unhide HBB, unhide HBL⟩
  case stop =>
    rintro D' c pre W hD hSp ⟨⟨⟨rfl, hv⟩, hb1W⟩, hBW⟩ hK
    have hDl : D' < W.heap.size := (Array.getElem?_eq_some_iff.1 hK).1
    have HR : Hid ((!(z.any fun x => overC n x.2)) = false) := by
      show (!(z.any fun x => overC n x.2)) = false
      obtain ⟨y, hy, ho⟩ := hv
      rw [Bool.not_eq_false', List.any_eq_true]
      exact ⟨y.1, by rw [← hxs]; exact List.mem_map.2 ⟨y, hSp.subset hy, rfl⟩, ho⟩
    gi_wp2
    exact ((Marked.nil w.heap.size w.heap.size W).push (by omega) (by omega) hDl hK).leaves (fun W => Boxed W (w.heap.size + 1) 4 (.bool false) ∧ Below w.heap.size w W) (fun W D hg hb hD => ⟨boxed_shutG hg.1 hD, shut_belowG hg.2 hb hD⟩) (fun W hg => ⟨.bool false, results_boolG (p := 4) rfl _ _ ⟨w.heap.size + 1, 0, none⟩ _ rfl hg.1.cell, by rw [unhide HR], hg.2⟩) ⟨hb1W, hBW⟩
end Go.Proofs.Ytkedckmpjedjoaa
