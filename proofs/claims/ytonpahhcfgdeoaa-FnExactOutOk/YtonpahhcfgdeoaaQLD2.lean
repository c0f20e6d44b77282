/- The walk of leads. -/
import Derived.Test.YtonpahhcfgdeoaaQFL2FL6LD1
import Derived.Test.YtonpahhcfgdeoaaQFL3FL5FL7
import Derived.Test.YtonpahhcfgdeoaaQPB6
namespace Go.Proofs.Ytonpahhcfgdeoaa
open Go.RowKit Go.Shelf Go.Maps
set_option linter.unusedVariables false
set_option linter.unusedSimpArgs false
attribute [local go_sem] Oper.semAt_some
attribute [-go_sem] Go.Builtin.append_

/-- How far leads has come: the stack of trees that are left, the next one first. -/
def LdAt (S : Nat → Prop) (s : List B) (t : List C) (v : Int) (w : World) (k : Nat) (wv : Value) (ds : List Deferred) (wr : World) : Prop :=
  ∃ (st : List (Nat × List C)) (pr : List (List C)) (seen : List Int) (N n : Nat) (D : DataW Unit), LdI s t v seen (st.map (·.2)) pr ∧ (k + seen.length = s.length + st.length ∧ N + 40 * k ≤ 40 * (s.length + 1) ∧ n ≤ N) ∧
    wr.ownsMap Try.prog 3 (plainElem Try.prog 3) (w.heap.size + 1 + 1) n D ∧ TabC seen N D ∧ wr.ownsRow (w.heap.size + 1 + 1 + 1) 69 1 wv st.length (stkP st.reverse) ∧
    (∀ x ∈ st, TreeAt S w x.1 x.2 ∧ (∀ c ∈ x.2, okC c = true) ∧ x.2.length ≤ 40) ∧ Boxed wr w.heap.size 3 (.int .i64 v) ∧ Boxed wr (w.heap.size + 1) 4 (.bool false) ∧ Below w.heap.size w wr ∧ Marked w.heap.size wr.heap.size wr ds

/-- What leads tells. -/
def LdOut (s : List B) (t : List C) (v : Int) (w : World) (e : Ending) (w' : World) : Prop := ∃ r : Bool, e = .returned (.bool r) ∧ (r = true ↔ Reach s t v) ∧ Below w.heap.size w w'

theorem results_bool {fn : Func} {p : Tmp} (h : fn.results = #[.cell p 4]) (tmps : Array Value) (w : World) (a : Addr) (b : Bool) (hp : tmps[p]?.getD undef = .pointer (some a)) (hc : w.cell? a = some (.bool b)) :
    (results fn tmps).run Try.prog w = .ok (.bool b) w := by
  simp [results, h, hp, hc, go_sem]
theorem boxed_shut {W : World} {B D : Nat} {T : TypeId} {u : Value} (h : Boxed W B T u) (hD : W.heap[D]? = some (.deferred (some []))) : Boxed (W.putObj D (.deferred none)) B T u :=
  (World.putObj_heap_other (fun e => by subst e; rw [show W.heap[B]? = _ from h] at hD; cases hD)).trans h
theorem Marked.grown {base hi : Nat} {W W' : World} {ds : List Deferred} {row : Option Nat} (h : Marked base hi W ds) (hg : W.grownBy W' row) (hr : ∀ k, row = some k → W.heap[k]? ≠ some (.deferred (some []))) : Marked base hi W' ds := by
  obtain ⟨Ds, e, hn, ha⟩ := h
  refine ⟨Ds, e, hn, fun D hm => ⟨(ha D hm).1, (ha D hm).2.1, (hg.block D (Array.getElem?_eq_some_iff.1 (ha D hm).2.2).1 (fun e => hr D e.symm (ha D hm).2.2)).trans (ha D hm).2.2⟩⟩
theorem row_not_def {w : World} {base e size n : Nat} {v : Value} {xs : List Value} (h : w.ownsRow base e size v n xs) : ∀ k, v.ownBlock = some k → w.heap[k]? ≠ some (.deferred (some [])) := by
  intro k ek hk
  rcases h.2 with ⟨rfl, _⟩ | ⟨g, cap, cur, rfl, _, hgb, _⟩
  · simp [Value.ownBlock] at ek
  · obtain rfl : g = k := by simpa [Value.ownBlock] using ek
    rw [hgb] at hk; cases hk
theorem map_not_def {W : World} {M n k : Nat} {R : Value → Option (DataW Unit × List MemPlace)} {D : DataW Unit} (h : W.ownsMap Try.prog k R M n D) : ∀ k, some M = some k → W.heap[k]? ≠ some (.deferred (some [])) := by
  obtain ⟨es, clock, hm, _⟩ := h
  intro k e hk
  cases e
  rw [hm] at hk; cases hk

/-- How far the variables of one tree were looked at. -/
def LdIn (S : Nat → Prop) (s : List B) (t : List C) (v : Int) (w : World) (x : Nat × List C) (pr : List (List C)) (ks : List Int) (a b N mb : Nat) (mv : Value) (ds : List Deferred) (o i : Value) (wq : World) : Prop :=
  ∃ (j : Nat) (st : List (Nat × List C)) (seen : List Int) (n : Nat) (D : DataW Unit), (j ≤ ks.length ∧ i = .int .i64 j) ∧ LdI s t v seen (x.2 :: st.map (·.2)) pr ∧ (∀ m, (h : m < ks.length) → m < j → ks[m] ∈ seen) ∧ (st.length + a = seen.length + b ∧ n ≤ N + j) ∧
    wq.ownsMap Try.prog 3 (plainElem Try.prog 3) (w.heap.size + 1 + 1) n D ∧ TabC seen (N + j) D ∧ wq.ownsRow (w.heap.size + 1 + 1 + 1) 69 1 o st.length (stkP st.reverse) ∧ OwnI wq mb mv ks ∧
    (∀ x ∈ st, TreeAt S w x.1 x.2 ∧ (∀ c ∈ x.2, okC c = true) ∧ x.2.length ≤ 40) ∧ (Boxed wq w.heap.size 3 (.int .i64 v) ∧ Boxed wq (w.heap.size + 1) 4 (.bool false)) ∧ Below w.heap.size w wq ∧ Marked w.heap.size wq.heap.size wq ds

theorem var_cell {c : C} {v : Int} (h : okC c = true) (hk : c.k = 1) (hn : c.n = v) : c = ⟨1, v, ⟨#[]⟩⟩ := by
  unfold okC at h
  rw [if_pos hk] at h
  simp only [Bool.and_eq_true, decide_eq_true_eq] at h
  have hs : c.s = ⟨#[]⟩ := by
    have h0 : c.s.size = 0 := h.2
    cases hc : c.s with
    | mk d => rw [hc] at h0; have : d = #[] := Array.eq_empty_of_size_eq_zero h0; rw [this]
  cases c
  simp_all
theorem same_of {c d : C} (h : same c d = true) : c = d := (same_iff c d).1 h
theorem same_self (c : C) : same c c = true := (same_iff c c).2 rfl
theorem ownFrom_const {β : Type} {B : Nat} {p : β → Prop} : OwnFrom B (fun x (_ : World) => p x) := fun _ _ _ _ h _ _ => h

set_option maxRecDepth 100000 in
set_option maxHeartbeats 4000000 in
theorem leads_any (lo P p : Nat) (S : Nat → Prop) (s : List B) (t : List C) (v : Int) (w : World) (hl : s.length ≤ 1048576) (hB : Bnd lo w P S s) (hT : TreeAt S w p t) (hok : ∀ c ∈ t, okC c = true) (h40 : t.length ≤ 40) (hokT : ∀ u, (∀ c ∈ getB s u, okC c = true) ∧ (getB s u).length ≤ 40) :
    Calls Try.prog 109 #[.pointer (some ⟨P, 0, none⟩), .pointer (some ⟨p, 0, none⟩), .int .i64 v] w (LdOut s t v w) := by
  have hmm := @run_makeMap Try.prog
  have hSl := hB.trees
  have HT := hide hT
  have HOK := hide hok
  have HOKT := hide hokT
  have hls : s.length ≤ 4194304 := by omega
  clear hT hok hokT
  refine (callsIn_wide (n := 5)).1 ?_
  refine callsIn_of_wp_marks Try.func109 rfl trivial ?_ rfl
  simp only [Try.ntmps109, List.size_toArray, List.length_cons, List.length_nil, Nat.reduceAdd, Nat.reduceSub, Array.replicate_succ, Array.replicate_zero, List.push_toArray, List.append_toArray, List.nil_append, List.cons_append]
  gi_wp2
  refine wpIn_loop_ghost_k (fun k a' wr => ∃ (u3 u4 u8 u9 u10 u11 u12 u16 u17 u18 u19 u20 u21 u22 u23 u24 u25 u26 u27 u28 u29 u30 u31 u32 u33 u34 u35 u36 u37 u38 u39 u40 u41 u42 u43 u44 u45 u46 u47 u48 u49 u50 u51 u52 u53 u54 u55 u56 u57 u58 u59 u60 u61 u62 : Value) (ds : List Deferred), LdAt S s t v w k u8 ds wr ∧ a' = { tmps := #[.pointer (some ⟨P, 0, none⟩), .pointer (some ⟨p, 0, none⟩), .int .i64 v, u3, u4, .pointer (some ⟨w.heap.size, 0, none⟩), .pointer (some ⟨w.heap.size + 1, 0, none⟩), .map (some (w.heap.size + 1 + 1)), u8, u9, u10, u11, u12, .map (some (w.heap.size + 1 + 1)), .pointer (some ⟨p, 0, none⟩), .slice (some ⟨w.heap.size + 1 + 1 + 1, 0, none⟩) 1 1, u16, u17, u18, u19, u20, u21, u22, u23, u24, u25, u26, u27, u28, u29, u30, u31, u32, u33, u34, u35, u36, u37, u38, u39, u40, u41, u42, u43, u44, u45, u46, u47, u48, u49, u50, u51, u52, u53, u54, u55, u56, u57, u58, u59, u60, u61, u62], defers := ds }) (s.length + 1) ?_ ?_
  · (repeat apply Exists.intro)
    refine ⟨?_, rfl⟩
    refine ⟨[(p, t)], [], [], 0, 0, .map [], by simpa using LdI.begin s t v, ⟨by simp, by simp, Nat.le_refl _⟩, ?_, tabC_nil, ?_, ?_, ?_, ?_, ((((Below.refl _ w).alloc (Nat.le_refl _) _).alloc (by simp) _).alloc (by simp; omega) _).alloc (by simp; omega) _, Marked.nil _ _ _⟩
    · have := World.ownsMap.alloc (World.ownsMap_made (H := Unit) ((w.alloc (.cells #[.int .i64 v] 3)).alloc (.cells #[.bool false] 4)) Try.prog 3 (plainElem Try.prog 3)) (.cells #[.pointer (some ⟨p, 0, none⟩)] 69)
      simpa using this
    · refine ⟨by simp [stkP], .inr ⟨w.heap.size + 1 + 1 + 1, 1, #[.pointer (some ⟨p, 0, none⟩)], rfl, Nat.le_refl _, ?_, Nat.le_refl _, by simp [maxLen], rfl, by simp [stkP]⟩⟩
      have := World.alloc_heap_new (((w.alloc (.cells #[.int .i64 v] 3)).alloc (.cells #[.bool false] 4)).alloc (.map #[] 0)) (.cells #[.pointer (some ⟨p, 0, none⟩)] 69)
      simpa using this
    · intro x hx
      simp at hx
      subst hx
      exact ⟨unhide HT, unhide HOK, h40⟩
    · exact (((Boxed.new w _ _).alloc _).alloc _).alloc _
    · have := ((Boxed.new (w.alloc (.cells #[.int .i64 v] 3)) 4 (.bool false)).alloc (.map #[] 0)).alloc (.cells #[.pointer (some ⟨p, 0, none⟩)] 69)
      rwa [World.size_alloc] at this
  · intro k _ wr hinv
    obtain ⟨u3, u4, u8, u9, u10, u11, u12, u16, u17, u18, u19, u20, u21, u22, u23, u24, u25, u26, u27, u28, u29, u30, u31, u32, u33, u34, u35, u36, u37, u38, u39, u40, u41, u42, u43, u44, u45, u46, u47, u48, u49, u50, u51, u52, u53, u54, u55, u56, u57, u58, u59, u60, u61, u62, ds, hrel, ha⟩ := hinv
    subst ha
    intro _ _ _ _
    obtain ⟨st, pr, seen, N, n, D, hI, ⟨hk1, hk2, hk3⟩, hM, hTab, hrow, hst, hb0, hb1, hBw, hMk⟩ := hrel
    have HI := hide hI
    have HMK := hide hMk
    have HM := hide hM
    have HTAB := hide hTab
    have HST := hide hst
    have HROW := hide hrow
    have c0 := hb0.cell
    have c1 := hb1.cell
    have f1 := hb1.frozen
    obtain ⟨wa, wc, rfl, hwc⟩ := row_shape hrow
    clear hI hMk hM hTab hst hrow
    cases st with
    | nil =>
      have HNR := hide (unhide HI).done
      simp only [List.length_nil]
      gi_wp2
      exact ((unhide HMK).keeps (KeepsOthers.setCell _ _ _)).leaves (fun W => Boxed W (w.heap.size + 1) 4 (.bool false) ∧ Below w.heap.size w W) (fun W D hg hb hD => ⟨boxed_shut hg.1 hD, shut_below hg.2 hb hD⟩) (fun W hg => ⟨.bool false, results_bool (p := 6) rfl _ _ ⟨w.heap.size + 1, 0, none⟩ _ rfl hg.1.cell, false, rfl, by simp; exact unhide HNR, hg.2⟩) ⟨hb1.set _, hBw.setCell (p := ⟨w.heap.size + 1, 0, none⟩) (by simp) _⟩
    | cons x st =>
      rw [List.length_cons] at hwc hk1
      have hstl : st.length ≤ 1048576 := by have := (unhide HI).len; omega
      obtain ⟨g, gc, eg, _, _, hg1, hg2, hgl, hgc⟩ := row_cells (unhide HROW) (by simp)
      simp only [Value.slice.injEq] at eg
      obtain ⟨rfl, _, rfl⟩ := eg
      have hcx := hgc st.length (by rw [hgl]; simp)
      have ex : (stkP (x :: st).reverse)[st.length]'(by rw [hgl]; simp) = .pointer (some ⟨x.1, 0, none⟩) := by simp [stkP]
      rw [ex] at hcx
      clear ex hgc
      obtain ⟨hTx, hokx, hx40⟩ := unhide HST x (by simp)
      obtain ⟨z, hTre, hz⟩ := hTx
      have hS := Tre.shp (f := 40) hSl hTre
      have hH : ∀ y ∈ z, Held w.heap.size w y ∧ okC y.2 = true := fun y hy => ⟨Tre.held (f := 40) hSl hTre y hy, hokx y.2 (by rw [← hz]; exact List.mem_map.2 ⟨y, hy, rfl⟩)⟩
      obtain ⟨xs, hxs⟩ := lift_sub z hH
      have hrow1 : wr.ownsRow (w.heap.size + 1 + 1 + 1) 69 1 (.slice (some ⟨g, 0, none⟩) st.length wc) st.length (stkP st.reverse) := by
        have h1 : wr.ownsRow (w.heap.size + 1 + 1 + 1) 69 1 (.slice (some ⟨g, 0, none⟩) (st.length + 1) wc) (st.length + 1) (stkP st.reverse ++ [.pointer (some ⟨x.1, 0, none⟩)]) := by simpa [stkP] using unhide HROW
        exact row_pop h1
      have HROW1 := hide hrow1
      have hwz := hBw.size
      have bN := Boxed.new wr 69 (.pointer (some ⟨x.1, 0, none⟩))
      have hBn : Below wr.heap.size wr (wr.alloc (.cells #[.pointer (some ⟨x.1, 0, none⟩)] 69)) := cell_below _ _
      have hB0 : Below w.heap.size w (wr.alloc (.cells #[.pointer (some ⟨x.1, 0, none⟩)] 69)) := hBw.alloc hBw.size _
      clear hrow1 HROW
      gi_wp2
      refine ⟨trivial, ?_⟩
      refine (nodes_in Fence.wide _ trivial rfl _ _).mono ?_
      rintro e w' ⟨rfl, rfl⟩
      gi_wp2
      refine wpIn_rangeFunc_ownG rfl (by omega) (gf := 121) (lb := #[.pointer (some ⟨wr.heap.size, 0, none⟩)]) rfl trivial (enters_of Try.func121 (by kernel_rfl) rfl)
        (nodes_stops (fun x : {x : Nat × C // Held w.heap.size w x ∧ okC x.2 = true} => x.1.1) Fence.wide rfl _ trivial trivial rfl wr.heap.size w.heap.size 40 x.1 _ xs _ (by simp) (by simp; omega) bN.cell (hS.below hB0) (by rw [← hxs]; simp)) kpsK_t (kpsK_b (by simp; omega)) (Below.refl _ _) (fun _ => rfl)
        (fun pre W => Below (wr.heap.size + 1) (wr.alloc (.cells #[.pointer (some ⟨x.1, 0, none⟩)] 69)) W ∧ ∀ y ∈ pre, ¬ (y.1.2.k = 1 ∧ y.1.2.n = v))
        (fun c pre W => ((c = .ret ∧ varIn (pre.map (·.1.2)) v) ∧ Boxed W (w.heap.size + 1) 4 (.bool true)) ∧ (Below w.heap.size w W ∧ Marked w.heap.size wr.heap.size W ds))
        (OwnFrom.and (ownFrom_below (by simp) (by simp)) ownFrom_const)
        (fun c => OwnFrom.and (OwnFrom.and ownFrom_const (Own.from (boxed_own (w.heap.size + 1) 4 (fun _ => .bool true)) _)) (OwnFrom.and (ownFrom_below (Nat.le_refl _) (by simp; omega)) (Marked.ownFrom (by simp) ds)))
        ⟨by simpa using Below.refl _ _, by simp⟩
        ?a1 ?assign ?body ?done ?stop
      case assign =>
        intro l x W K hK
        gi_wp2
        exact hK
      case body =>
        rintro l pre y W ⟨hW, hpre⟩ hlt
        obtain ⟨⟨g1, c⟩, hy, hcok⟩ := y
        have hBW : Below w.heap.size w W := hB0.trans (hW.mono (by omega))
        obtain ⟨_, h0, h1, h2⟩ := hy.below hBW
        dsimp only at h0 h1 h2 hcok
        have hb0W : Boxed W w.heap.size 3 (.int .i64 v) := (hW.block _ (by have := hb0.lt; omega)).trans (hb0.alloc _)
        have hb1W : Boxed W (w.heap.size + 1) 4 (.bool false) := (hW.block _ (by have := hb1.lt; omega)).trans (hb1.alloc _)
        have hMW : Marked w.heap.size wr.heap.size W ds := (unhide HMK).below (fun k hk => (hW.block k (by omega)).trans (Below.heap_alloc _ _ _ hk))
        have cb := hb0W.cell
        have cb1 := hb1W.cell
        have fb1 := hb1W.frozen
        have hlt1 := hb1W.lt
        have heq := eql_cell c ⟨1, v, ⟨#[]⟩⟩
        cases hsm : same c ⟨1, v, ⟨#[]⟩⟩ with
        | true =>
          rw [hsm] at heq
          have hce : c = ⟨1, v, ⟨#[]⟩⟩ := same_of hsm
          have HFIN : Hid (KeepsFrom (wr.alloc (.cells #[.pointer (some ⟨x.1, 0, none⟩)] 69)).heap.size W (W.setCell ⟨w.heap.size + 1, 0, none⟩ (.bool true)).drew ∧ (((Code.ret = Code.ret ∧ varIn ((pre ++ [(⟨(g1, c), hy, hcok⟩ : {x : Nat × C // Held w.heap.size w x ∧ okC x.2 = true})]).map (·.1.2)) v) ∧ Boxed (W.setCell ⟨w.heap.size + 1, 0, none⟩ (.bool true)).drew (w.heap.size + 1) 4 (.bool true)) ∧ (Below w.heap.size w (W.setCell ⟨w.heap.size + 1, 0, none⟩ (.bool true)).drew ∧ Marked w.heap.size wr.heap.size (W.setCell ⟨w.heap.size + 1, 0, none⟩ (.bool true)).drew ds))) := by
            refine ⟨((KeepsOthers.setCell W _ _).trans (KeepsOthers.drew _)).from _, ⟨⟨rfl, c, by simp, by rw [hce], by rw [hce]⟩, Boxed.set (W := W) _ hb1W⟩, (hBW.setCell (p := ⟨w.heap.size + 1, 0, none⟩) (by simp) _).drew, hMW.keeps ((KeepsOthers.setCell W _ _).trans (KeepsOthers.drew _))⟩
          clear hce hsm hpre hMW
          gi_wp2
          refine region_in (fun w' => w' = W.drew) (by kernel_rfl) (by intro o ho c; simp at ho; rcases ho with (rfl | ho) <;> first | (simp; done) | (revert ho; intro ho; repeat' (rcases ho with (rfl | ho))) <;> simp_all) ?_
          refine wpAnyH_take (i := 0) (v := ?v0) rfl (by kernel_rfl) (by kernel_rfl) (by kernel_rfl) (fun _ _ _ h => quiet_panic h) (Or.inl ⟨by rfl, ?y0⟩) rfl ?_
          case y0 => (intro w' hw'; subst hw'; go_simp; first | done | with_reducible rfl)
          simp only [Act.put, List.getElem_toArray, List.getElem_cons_zero, List.getElem_cons_succ, List.setIfInBounds_toArray, List.set_cons_zero, List.set_cons_succ]
          refine wpAnyH_take (i := 1) (v := ?v1) rfl (by kernel_rfl) (by kernel_rfl) (by kernel_rfl) (fun _ _ _ h => quiet_panic h) (Or.inl ⟨by rfl, ?y1⟩) rfl ?_
          case y1 => (intro w' hw'; subst hw'; go_simp; first | done | with_reducible rfl)
          simp only [Act.put, List.getElem_toArray, List.getElem_cons_zero, List.getElem_cons_succ, List.setIfInBounds_toArray, List.set_cons_zero, List.set_cons_succ]
          refine wpAnyH_take (i := 2) (v := ?v2) rfl (by kernel_rfl) (by kernel_rfl) (by kernel_rfl) (fun _ _ _ h => quiet_panic h) (Or.inl ⟨by rfl, ?y2⟩) rfl ?_
          case y2 => (intro w' hw'; subst hw'; go_simp; first | done | with_reducible rfl)
          simp only [Act.put, List.getElem_toArray, List.getElem_cons_zero, List.getElem_cons_succ, List.setIfInBounds_toArray, List.set_cons_zero, List.set_cons_succ]
          refine wpAnyH_take (i := 3) (v := (.agg #[.int .i64 c.k, .int .i64 c.n, .string c.s])) rfl (by kernel_rfl) (by kernel_rfl) (by kernel_rfl) (fun _ _ _ h => quiet_panic h) (Or.inl ⟨by rfl, ?y3⟩) rfl ?_
          case y3 => (intro w' hw'; subst hw'; go_simp; first | done | with_reducible rfl)
          simp only [Act.put, List.getElem_toArray, List.getElem_cons_zero, List.getElem_cons_succ, List.setIfInBounds_toArray, List.set_cons_zero, List.set_cons_succ]
          refine wpAnyH_take (i := 4) (v := (.int .i64 v)) rfl (by kernel_rfl) (by kernel_rfl) (by kernel_rfl) (fun _ _ _ h => quiet_panic h) (Or.inl ⟨by rfl, ?y4⟩) rfl ?_
          case y4 => (intro w' hw'; subst hw'; go_simp; first | done | with_reducible rfl)
          simp only [Act.put, List.getElem_toArray, List.getElem_cons_zero, List.getElem_cons_succ, List.setIfInBounds_toArray, List.set_cons_zero, List.set_cons_succ]
          refine wpAnyH_take (i := 5) (v := (.agg #[.int .i64 1, .int .i64 v, .string ⟨#[]⟩])) rfl (by kernel_rfl) (by kernel_rfl) (by kernel_rfl) (fun _ _ _ h => quiet_panic h) (Or.inl ⟨by rfl, ?y5⟩) rfl ?_
          case y5 => (intro w' hw'; subst hw'; go_simp; first | done | with_reducible rfl)
          simp only [Act.put, List.getElem_toArray, List.getElem_cons_zero, List.getElem_cons_succ, List.setIfInBounds_toArray, List.set_cons_zero, List.set_cons_succ]
          refine wpAnyH_take (i := 6) (v := (.bool true)) rfl (by kernel_rfl) (by kernel_rfl) (by kernel_rfl) (fun _ _ _ h => quiet_panic h) (Or.inl ⟨by rfl, ?y6⟩) rfl ?_
          case y6 => (intro w' hw'; subst hw'; go_simp; first | done | with_reducible rfl)
          simp only [Act.put, List.getElem_toArray, List.getElem_cons_zero, List.getElem_cons_succ, List.setIfInBounds_toArray, List.set_cons_zero, List.set_cons_succ]
          refine wpAnyH_done (by kernel_rfl) ?_ _
          refine ⟨rfl, ?_⟩
          gi_wp2
          refine And.intro ?_ ?_
          · have r1 := (unhide HFIN).1
            simpa using r1
          · have r2 := (unhide HFIN).2
            exact ⟨⟨⟨rfl, r2.1.1.2⟩, r2.1.2⟩, r2.2⟩
        | false =>
          rw [hsm] at heq
          have hcn : ¬ (c.k = 1 ∧ c.n = v) := fun hc => by
            have : c = ⟨1, v, ⟨#[]⟩⟩ := var_cell hcok hc.1 hc.2
            rw [this, same_self] at hsm
            cases hsm
          have HFIN : Hid (KeepsFrom (wr.alloc (.cells #[.pointer (some ⟨x.1, 0, none⟩)] 69)).heap.size W W.drew ∧ KpS w.heap.size W W.drew ∧ (Below (wr.heap.size + 1) (wr.alloc (.cells #[.pointer (some ⟨x.1, 0, none⟩)] 69)) W.drew ∧ ∀ y ∈ pre ++ [(⟨(g1, c), hy, hcok⟩ : {x : Nat × C // Held w.heap.size w x ∧ okC x.2 = true})], ¬ (y.1.2.k = 1 ∧ y.1.2.n = v))) := by
            refine ⟨(KeepsOthers.drew W).from _, KpS.of_below ((Below.refl _ W).drew), hW.drew, fun y hy' => ?_⟩
            rcases List.mem_append.1 hy' with h | h
            · exact hpre y h
            · simp at h; subst h; exact hcn
          clear hcn hsm hpre hMW
          gi_wp2
          refine region_in (fun w' => w' = W.drew) (by kernel_rfl) (by intro o ho c; simp at ho; rcases ho with (rfl | ho) <;> first | (simp; done) | (revert ho; intro ho; repeat' (rcases ho with (rfl | ho))) <;> simp_all) ?_
          refine wpAnyH_take (i := 0) (v := ?v0) rfl (by kernel_rfl) (by kernel_rfl) (by kernel_rfl) (fun _ _ _ h => quiet_panic h) (Or.inl ⟨by rfl, ?y0⟩) rfl ?_
          case y0 => (intro w' hw'; subst hw'; go_simp; first | done | with_reducible rfl)
          simp only [Act.put, List.getElem_toArray, List.getElem_cons_zero, List.getElem_cons_succ, List.setIfInBounds_toArray, List.set_cons_zero, List.set_cons_succ]
          refine wpAnyH_take (i := 1) (v := ?v1) rfl (by kernel_rfl) (by kernel_rfl) (by kernel_rfl) (fun _ _ _ h => quiet_panic h) (Or.inl ⟨by rfl, ?y1⟩) rfl ?_
          case y1 => (intro w' hw'; subst hw'; go_simp; first | done | with_reducible rfl)
          simp only [Act.put, List.getElem_toArray, List.getElem_cons_zero, List.getElem_cons_succ, List.setIfInBounds_toArray, List.set_cons_zero, List.set_cons_succ]
          refine wpAnyH_take (i := 2) (v := ?v2) rfl (by kernel_rfl) (by kernel_rfl) (by kernel_rfl) (fun _ _ _ h => quiet_panic h) (Or.inl ⟨by rfl, ?y2⟩) rfl ?_
          case y2 => (intro w' hw'; subst hw'; go_simp; first | done | with_reducible rfl)
          simp only [Act.put, List.getElem_toArray, List.getElem_cons_zero, List.getElem_cons_succ, List.setIfInBounds_toArray, List.set_cons_zero, List.set_cons_succ]
          refine wpAnyH_take (i := 3) (v := (.agg #[.int .i64 c.k, .int .i64 c.n, .string c.s])) rfl (by kernel_rfl) (by kernel_rfl) (by kernel_rfl) (fun _ _ _ h => quiet_panic h) (Or.inl ⟨by rfl, ?y3⟩) rfl ?_
          case y3 => (intro w' hw'; subst hw'; go_simp; first | done | with_reducible rfl)
          simp only [Act.put, List.getElem_toArray, List.getElem_cons_zero, List.getElem_cons_succ, List.setIfInBounds_toArray, List.set_cons_zero, List.set_cons_succ]
          refine wpAnyH_take (i := 4) (v := (.int .i64 v)) rfl (by kernel_rfl) (by kernel_rfl) (by kernel_rfl) (fun _ _ _ h => quiet_panic h) (Or.inl ⟨by rfl, ?y4⟩) rfl ?_
          case y4 => (intro w' hw'; subst hw'; go_simp; first | done | with_reducible rfl)
          simp only [Act.put, List.getElem_toArray, List.getElem_cons_zero, List.getElem_cons_succ, List.setIfInBounds_toArray, List.set_cons_zero, List.set_cons_succ]
          refine wpAnyH_take (i := 5) (v := (.agg #[.int .i64 1, .int .i64 v, .string ⟨#[]⟩])) rfl (by kernel_rfl) (by kernel_rfl) (by kernel_rfl) (fun _ _ _ h => quiet_panic h) (Or.inl ⟨by rfl, ?y5⟩) rfl ?_
          case y5 => (intro w' hw'; subst hw'; go_simp; first | done | with_reducible rfl)
          simp only [Act.put, List.getElem_toArray, List.getElem_cons_zero, List.getElem_cons_succ, List.setIfInBounds_toArray, List.set_cons_zero, List.set_cons_succ]
          refine wpAnyH_take (i := 6) (v := (.bool false)) rfl (by kernel_rfl) (by kernel_rfl) (by kernel_rfl) (fun _ _ _ h => quiet_panic h) (Or.inl ⟨by rfl, ?y6⟩) rfl ?_
          case y6 => (intro w' hw'; subst hw'; go_simp; first | done | with_reducible rfl)
          simp only [Act.put, List.getElem_toArray, List.getElem_cons_zero, List.getElem_cons_succ, List.setIfInBounds_toArray, List.set_cons_zero, List.set_cons_succ]
          refine wpAnyH_done (by kernel_rfl) ?_ _
          refine ⟨rfl, ?_⟩
          gi_wp2
          first | exact unhide HFIN | (obtain ⟨r1, r2⟩ := unhide HFIN; exact ⟨by simpa using r1, r2⟩) | (have h := unhide HFIN; simpa using h)
      case done =>
        rintro D' ys W hD rfl ⟨hW, hall⟩ hK
        have hDl : D' < W.heap.size := (Array.getElem?_eq_some_iff.1 hK).1
        simp only [World.size_alloc] at hD
        have hWr : Below wr.heap.size wr W := hBn.trans (hW.mono (by omega))
        have hBW : Below w.heap.size w W := hB0.trans (hW.mono (by omega))
        have hNV : ¬ varIn x.2 v := by
          rintro ⟨c, hc, h1, h2⟩
          rw [← hz, ← hxs] at hc
          obtain ⟨y, hy, rfl⟩ := List.mem_map.1 hc
          obtain ⟨y', hy', rfl⟩ := List.mem_map.1 hy
          exact hall y' hy' ⟨h1, h2⟩
        have hTxW : TreeAt S W x.1 x.2 := ⟨z, Tre.kept (f := 40) (fun _ h => h) (fun b hb => hBW.block b (hSl b hb)) hTre, hz⟩
        have HBI := hide (boundIn_any lo P x.1 S s x.2 W (hB.below hBW) hTxW hokx (by omega) hls)
        have HNV := hide hNV
        have HMKW : Hid (Marked w.heap.size W.heap.size W ({ target := .collected D', args := #[] } :: ds)) := ((unhide HMK).below (fun k hk => hWr.block k hk)).push (by omega) (by omega) hDl hK
        have HROWW := hide (own_below (unhide HROW1) hWr)
        have HMW := hide ((unhide HM).kept (row := none) ⟨hWr.os, hWr.tape, hWr.output, hWr.size, fun j hj _ => hWr.block j hj⟩ (by simp))
        have hb0W : Boxed W w.heap.size 3 (.int .i64 v) := (hWr.block _ hb0.lt).trans hb0
        have hb1W : Boxed W (w.heap.size + 1) 4 (.bool false) := (hWr.block _ hb1.lt).trans hb1
        clear hNV hTxW hall hW hK HROW1 HM HMK
        gi_wp2
        refine ⟨trivial, ?_⟩
        refine (callsIn_wide.2 (unhide HBI)).mono ?_
        clear HBI
        rintro e w3 ⟨vm, rfl, hOm, hb3⟩
        have G3 : W.grownBy w3 none := ⟨hb3.os, hb3.tape, hb3.output, hb3.size, fun j hj _ => hb3.block j hj⟩
        have HKM : Hid (∀ u, u ∈ kidsL s x.2 ↔ varIn x.2 u ∧ getB s u ≠ []) := fun u => mem_kidsL
        have hkl : (kidsL s x.2).length ≤ 40 := Nat.le_trans (kidsL_len _ _) hx40
        obtain ⟨ks, hks⟩ : ∃ ks, ks = kidsL s x.2 := ⟨_, rfl⟩
        rw [← hks] at hOm hkl HKM
        clear hks
        obtain ⟨ma, mc, rfl, _⟩ := hOm.shape
        have HSTART : Hid (LdIn S s t v w x pr ks seen.length st.length N W.heap.size (.slice ma ks.length mc) ({ target := .collected D', args := #[] } :: ds) (.slice (some ⟨g, 0, none⟩) st.length wc) (.int .i64 0) w3) :=
          ⟨0, st, seen, n, D, ⟨Nat.zero_le _, rfl⟩, by simpa using unhide HI, fun m _ h => absurd h (Nat.not_lt_zero _), ⟨by omega, by omega⟩, (unhide HMW).kept G3 (by simp), unhide HTAB, own_below (unhide HROWW) hb3, hOm, fun y hy => unhide HST y (by simp [hy]), ⟨hb0W.kept G3 (by simp), hb1W.kept G3 (by simp)⟩, bstep hBW hb3, ((unhide HMKW).below (fun k hk => hb3.block k hk)).mono hb3.size⟩
        clear hOm hb3 G3 HMW HROWW HMKW HTAB hb0W hb1W hBW
        gi_wp2
        gi_loopw [8, 44] (fun o i wq => LdIn S s t v w x pr ks seen.length st.length N W.heap.size (.slice ma ks.length mc) ({ target := .collected D', args := #[] } :: ds) o i wq) (fun _ i _ => ks.length - (intOf i).toNat)
        case atStart => exact unhide HSTART
        case round =>
          clear HSTART
          obtain ⟨j, st', seen', n', D1, ⟨hj, rfl⟩, hI', hse, ⟨hcnt, hn'⟩, hM', hT', hrow', hO', hst', ⟨hb0', hb1'⟩, hBq, hMk'⟩ := hrel
          have hlen' := hI'.len
          have hstl' : st'.length ≤ 2097153 := by omega
          have HI' := hide hI'
          have HSE := hide hse
          have HT' := hide hT'
          have HST' := hide hst'
          have HMK' := hide hMk'
          have hqz := hBq.size
          have hbz := hb1'.lt
          obtain ⟨oa, oc, rfl, hoc⟩ := row_shape hrow'
          by_cases hlt : j < ks.length
          · obtain ⟨mb, moff, rfl, hAm⟩ : ∃ b off, ma = some ⟨b, off, none⟩ ∧ AtI wr b off ks := by
              rcases hO'.row with h | h
              · rw [h] at hlt; simp at hlt
              · exact h
            have d0 := hAm j hlt
            have hu := (unhide HKM _).1 (List.getElem_mem hlt)
            have HSTEP : Hid (∀ seen2 : List Int, (∀ y, y ∈ seen' → y ∈ seen2) → ks[j] ∈ seen2 → ∀ m, (h : m < ks.length) → m < j + 1 → ks[m] ∈ seen2) := fun seen2 h1 h2 m hm hmj => by
              by_cases e : m = j
              · subst e; exact h2
              · exact h1 _ (unhide HSE m hm (by omega))
            generalize ks[j] = u at d0 hu HSTEP
            have hwu : (Lit.int .i64 u).wf = true := by
              obtain ⟨⟨c, hc, hk, rfl⟩, _⟩ := hu
              have := okC_var (hokx c hc) hk
              exact WalkArith.wf_i64 (by omega)
            obtain ⟨cn, hat', hz0, hcN⟩ := hT'.2 u
            obtain ⟨c, hrl, hat, hwc⟩ := hM'.lookup_int (int_keyed Try.underlying3) Try.underlying127 Try.underlying3 (zeroInt _) (keyOf_int_mk Try.underlying3 hwu)
            rw [hat'] at hat
            simp only [DataW.lit.injEq, Lit.int.injEq, true_and] at hat
            subst hat
            have hw1 : (Lit.int .i64 ((cn : Int) + 1)).wf = true := WalkArith.wf_i64 (by omega)
            obtain ⟨wq1, hru, hM1, hg1⟩ := hM'.update (int_keyed Try.underlying3) (t := 127) (e := 3) Try.underlying127 (by unfold maxLen; omega) (keyOf_int_mk Try.underlying3 hwu) (plainElem_int Try.underlying3 hw1)
            obtain ⟨c2, hrl2, hat2, hwc2⟩ := hM1.lookup_int (int_keyed Try.underlying3) Try.underlying127 Try.underlying3 (zeroInt _) (keyOf_int_mk Try.underlying3 hwu)
            rw [tabC_at_put (N := 0) hT'.1] at hat2
            simp only [DataW.lit.injEq, Lit.int.injEq, true_and] at hat2
            subst hat2
            have hrow1 := own_block hrow' (fun k e => hg1.block k (hrow'.lt k e).2 (fun e' => map_not_row hM' hrow' (by rw [e]; exact e'.symm)))
            have hO1 : OwnI wq1 W.heap.size (.slice (some ⟨mb, moff, none⟩) ks.length mc) ks := own_block hO' (fun k e => hg1.block k (hO'.lt k e).2 (fun e' => map_not_row hM' hO' (by rw [e]; exact e'.symm)))
            have hb01 := hb0'.kept hg1 (by simp; omega)
            have hb11 := hb1'.kept hg1 (by simp)
            have hB1 : Below w.heap.size w wq1 := hBq.grown hg1 hBq.size (fun k e => by cases e; omega)
            have HMK1 := hide (((unhide HMK').grown hg1 (map_not_def hM')).mono hg1.size)
            have hq1z := hg1.size
            by_cases hc0 : cn = 0
            · subst hc0
              have hun := hz0.1 rfl
              have HT1 := hide (show TabC (u :: seen') (N + (j + 1)) (D1.put (.int .i64 u) (.lit (.int .i64 1))) from by
                have := tabC_put (unhide HT') hat' hcN (u :: seen') (fun x => by simp)
                simpa [Nat.add_assoc] using this)
              have HI1 := hide ((unhide HI').new hu.1 hu.2 hun)
              have HG := hide (get_any lo P S s u wq1 hls (hB.below hB1) hwu)
              have HSTP := hide (unhide HSTEP (u :: seen') (fun y hy => List.mem_cons_of_mem _ hy) (List.mem_cons_self))
              have HUB := hide hu.2
              rw [show ((0 : Nat) : Int) = 0 from rfl] at hrl
              rw [show ((0 : Nat) : Int) + 1 = 1 from rfl] at hru hrl2 hM1
              clear hat' hz0 hun hT' hI' hse hst' hMk' hrow' hO' hM' hu HSTEP
              gi_wp2
              refine ⟨trivial, ?_⟩
              refine (callsIn_wide.2 (unhide HG)).mono ?_
              clear HG
              rintro e w2 ⟨hwe, hgo⟩
              have hwe' := hwe.symm
              subst hwe'
              obtain ⟨pt, rfl, hTpt⟩ : ∃ pt, e = .returned (.pointer (some ⟨pt, 0, none⟩)) ∧ TreeAt S wq1 pt (getB s u) := by
                rcases hgo with h | ⟨_, pt, h1, h2⟩
                · exact absurd h.1 (unhide HUB)
                · exact ⟨pt, h1, h2⟩
              clear hgo hwe
              obtain ⟨j0, hj0, hy0, hy1, hy2⟩ := info_parts (show (Try.prog.info? 69).map (fun i => (i.zero, i.size, i.bytes)) = some (some (.pointer none), 1, 8) by kernel_rfl)
              obtain ⟨g2, cap2, w5, hr2, hown2, hgrow2, hat2, hgl2⟩ := run_append_lies (P := Try.prog) (wq1.alloc (.cells #[.pointer (some ⟨pt, 0, none⟩)] 69)) 93 93 (w.heap.size + 1 + 1 + 1) 69 j0 _ 1 8 Try.underlying93 hj0 hy0 hy1 hy2 rfl (by decide) (.slice oa st'.length oc) st'.length _ (World.ownsRow.alloc hrow1 _) ⟨wq1.heap.size, 0, none⟩ 1 1 [.pointer (some ⟨pt, 0, none⟩)] rfl (cell_one_new wq1 _ _) (by simp [Value.oneCell']) (by omega) (by unfold maxLen; omega) (by omega) (by simp; omega) _ rfl
              have hr' : Sem.run Try.prog (Builtin.append_ #[93, 93] 93 #[.slice oa st'.length oc, .slice (some ⟨wq1.heap.size, 0, none⟩) 1 1]) (wq1.alloc (.cells #[.pointer (some ⟨pt, 0, none⟩)] 69)) = .ok (.slice (some ⟨g2, 0, none⟩) (st'.length + 1) cap2) w5 := hr2
              clear hr2
              have hs5 := hgrow2.size
              simp at hs5
              have HREL : Hid (LdIn S s t v w x pr ks seen.length st.length N W.heap.size (.slice (some ⟨mb, moff, none⟩) ks.length mc) ({ target := .collected D', args := #[] } :: ds) (.slice (some ⟨g2, 0, none⟩) (st'.length + 1) cap2) (.int .i64 ((j : Int) + 1)) w5) := by
                refine ⟨j + 1, (pt, getB s u) :: st', u :: seen', n' + 1, _, ⟨by omega, by simp⟩, by simpa using unhide HI1, unhide HSTP, ⟨by simp; omega, by omega⟩, (World.ownsMap.alloc hM1 _).kept hgrow2 (map_not_row hM1 hrow1), unhide HT1, by simpa [stkP] using hown2, ?_, ?_, ⟨(hb01.alloc _).kept hgrow2 (hb01.not_row (by decide) hrow1), (hb11.alloc _).kept hgrow2 (hb11.not_row (by decide) hrow1)⟩, (hB1.alloc hB1.size _).grown hgrow2 (by simp; omega) (fun k e => by have := (hrow1.lt k e).1; omega), ?_⟩
                · exact own_block (own_below hO1 (cell_below _ _)) (fun k e => hgrow2.block k (by have := (hO1.lt k e).2; simp; omega) (fun e' => by
                    rcases row_apart hO1 hrow1 (by decide) with h | h
                    · rw [h] at e; cases e
                    · exact h (by rw [e]; exact e')))
                · intro y hy
                  rcases List.mem_cons.1 hy with rfl | hy
                  · exact ⟨hTpt.kept (fun _ h => h) (fun b hb => (hB1.block b (hSl b hb)).symm), (unhide HOKT u).1, (unhide HOKT u).2⟩
                  · exact unhide HST' y hy
                · exact ((((unhide HMK1).keeps (KeepsOthers.alloc _ _)).mono (by simp)).grown hgrow2 (row_not_def (World.ownsRow.alloc hrow1 _))).mono hgrow2.size
              clear hM1 hrow1 hO1 hb01 hb11 hB1 HMK1 hown2 hgrow2 hat2 hgl2 hTpt
              gi_wp2
              go_roundw
              case rel => (have h := unhide HREL; first | exact h | simpa using h)
              case measure => simp [intOf]; omega
            · have hin : u ∈ seen' := by
                by_cases h : u ∈ seen'
                · exact h
                · exact absurd (hz0.2 h) hc0
              have HT1 := hide (show TabC seen' (N + (j + 1)) (D1.put (.int .i64 u) (.lit (.int .i64 ((cn : Int) + 1)))) from by
                have := tabC_put (unhide HT') hat' hcN seen' (fun x => by constructor; exact .inr; rintro (rfl | h); exact hin; exact h)
                simpa [Nat.add_assoc] using this)
              have HSTP := hide (unhide HSTEP seen' (fun y hy => hy) hin)
              have hcb : ((cn : Int) + 1 == 1) = false := by simp; omega
              have HREL : Hid (LdIn S s t v w x pr ks seen.length st.length N W.heap.size (.slice (some ⟨mb, moff, none⟩) ks.length mc) ({ target := .collected D', args := #[] } :: ds) (.slice oa st'.length oc) (.int .i64 ((j : Int) + 1)) wq1) :=
                ⟨j + 1, st', seen', n' + 1, _, ⟨by omega, by simp⟩, unhide HI', unhide HSTP, ⟨hcnt, by omega⟩, hM1, unhide HT1, hrow1, hO1, unhide HST', ⟨hb01, hb11⟩, hB1, unhide HMK1⟩
              clear hat' hz0 hin hT' hI' hse hst' hMk' hrow' hO' hM' hu HSTEP hM1 hrow1 hO1 hb01 hb11 hB1 HMK1 hc0
              gi_wp2
              go_roundw
              case rel => (have h := unhide HREL; first | exact h | simpa using h)
              case measure => simp [intOf]; omega
          · have e : j = ks.length := by omega
            subst e
            have HREL : Hid (LdAt S s t v w (k - 1) (.slice oa st'.length oc) ({ target := .collected D', args := #[] } :: ds) wr) := by
              refine ⟨st', x.2 :: pr, seen', N + ks.length, n', D1, (unhide HI').finish (unhide HNV) (fun u h1 h2 => ?_), ⟨by omega, by omega, by omega⟩, hM', unhide HT', hrow', unhide HST', hb0', hb1', hBq, unhide HMK'⟩
              obtain ⟨m, hm, rfl⟩ := List.getElem_of_mem ((unhide HKM u).2 ⟨h1, h2⟩)
              exact unhide HSE m hm hm
            have hk0 : k - 1 < k := by omega
            clear hT' hI' hse hst' hMk' hrow' hO' hM' hb0' hb1'
            gi_wp2
            gi_roundg (k - 1)
            case rel => exact unhide HREL
            case measure => omega
      case stop =>
        rintro D' c pre W hD hSp ⟨⟨⟨rfl, hv⟩, hb1W⟩, hBW, hMW⟩ hK
        have hDl : D' < W.heap.size := (Array.getElem?_eq_some_iff.1 hK).1
        simp only [World.size_alloc] at hD
        have hvx : varIn x.2 v := by
          obtain ⟨c, hc, h1, h2⟩ := hv
          obtain ⟨y, hy, rfl⟩ := List.mem_map.1 hc
          refine ⟨y.1.2, ?_, h1, h2⟩
          rw [← hz, ← hxs]
          exact List.mem_map.2 ⟨y.1, List.mem_map.2 ⟨y, hSp.subset hy, rfl⟩, rfl⟩
        have HR := hide ((unhide HI).found hvx)
        gi_wp2
        exact (hMW.push (by omega) (by omega) hDl hK).leaves (fun W => Boxed W (w.heap.size + 1) 4 (.bool true) ∧ Below w.heap.size w W) (fun W D hg hb hD => ⟨boxed_shut hg.1 hD, shut_below hg.2 hb hD⟩) (fun W hg => ⟨.bool true, results_bool (p := 6) rfl _ _ ⟨w.heap.size + 1, 0, none⟩ _ rfl hg.1.cell, true, rfl, by simp; exact unhide HR, hg.2⟩) ⟨hb1W, hBW⟩
end Go.Proofs.Ytonpahhcfgdeoaa
