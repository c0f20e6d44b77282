/- The walk of makeSame. -/
import Derived.Test.YtonpahhcfgdeoaaQFL1U1MS1MK1
import Derived.Test.YtonpahhcfgdeoaaQMU1RW1FL4FL8
import Derived.Test.YtonpahhcfgdeoaaQT6U4
namespace Go.Proofs.Ytonpahhcfgdeoaa
open Go.RowKit Go.Shelf Go.Maps
set_option linter.unusedVariables false
set_option linter.unusedSimpArgs false
attribute [local go_sem] Oper.semAt_some
attribute [-go_sem] Go.Builtin.append_

abbrev PrT := (Nat × List C) × (Nat × List C)
def prL (x : PrT) : List C × List C := (x.1.2, x.2.2)
/-- Pairs of pointers to trees. -/
def stkQ (ps : List PrT) : List Value := ps.flatMap fun x => [.pointer (some ⟨x.1.1, 0, none⟩), .pointer (some ⟨x.2.1, 0, none⟩)]
theorem stkQ_append (a b : List PrT) : stkQ (a ++ b) = stkQ a ++ stkQ b := by simp [stkQ]
theorem stkQ_one (x : PrT) : stkQ [x] = [.pointer (some ⟨x.1.1, 0, none⟩), .pointer (some ⟨x.2.1, 0, none⟩)] := by simp [stkQ]
theorem stkQ_length (a : List PrT) : (stkQ a).length = a.length * 2 := by
  induction a with
  | nil => rfl
  | cons x a ih => show (stkQ ([x] ++ a)).length = _; rw [stkQ_append, List.length_append, ih, stkQ_one]; simp; omega

theorem row_pop2 {w : World} {base e n cap : Nat} {ao : Option Addr} {xs : List Value} {x y : Value} (h : w.ownsRow base e 2 (.slice ao (n + 1) cap) (n + 1) (xs ++ [x, y])) : w.ownsRow base e 2 (.slice ao n cap) n xs := by
  have hl : xs.length = n * 2 := by have := h.1; simp at this; omega
  refine ⟨by omega, ?_⟩
  rcases h.2 with ⟨e, hn⟩ | ⟨g, cap', cur, e, hg, hh, hc, hm, hs, ht⟩
  · omega
  · simp only [Value.slice.injEq] at e
    obtain ⟨rfl, _, rfl⟩ := e
    refine .inr ⟨g, cap, cur, rfl, hg, hh, by omega, hm, hs, ?_⟩
    have h3 : (cur.toList.take ((n + 1) * 2)).take (n * 2) = cur.toList.take (n * 2) := by rw [List.take_take]; congr 1; omega
    rw [← h3, ht, List.take_append_of_le_length (by omega), ← hl, List.take_length]
theorem row_top2 {w : World} {base e n cap : Nat} {ao : Option Addr} {xs : List Value} {x y : Value} (h : w.ownsRow base e 2 (.slice ao (n + 1) cap) (n + 1) (xs ++ [x, y])) : ∃ g, ao = some ⟨g, 0, none⟩ ∧ base ≤ g ∧ g < w.heap.size ∧ n + 1 ≤ cap ∧ cap ≤ maxLen ∧ w.cell? ⟨g, n * 2, none⟩ = some x ∧ w.cell? ⟨g, n * 2 + 1, none⟩ = some y := by
  have hl : xs.length = n * 2 := by have := h.1; simp at this; omega
  have h' := h
  rcases h.2 with ⟨e, hn⟩ | ⟨g, cap', cur, e, hg, hh, hc, hm, hs, ht⟩
  · omega
  · simp only [Value.slice.injEq] at e
    obtain ⟨rfl, _, rfl⟩ := e
    have e0 := h'.cellAt (n * 2) (by omega)
    have e1 := h'.cellAt (n * 2 + 1) (by omega)
    refine ⟨g, rfl, hg, (Array.getElem?_eq_some_iff.1 hh).1, hc, hm, e0.trans ?_, e1.trans ?_⟩
    · rw [List.getElem?_append_right (by omega)]; simp [hl]
    · rw [List.getElem?_append_right (by omega)]; simp [hl]

/-- How far makeSame has come: the stack of pairs that are left, the next one first. -/
def MsAt (lo : Nat) (S : Nat → Prop) (res : Option (List B)) (sf : List B) (w : World) (P : Nat) (k : Nat) (ds : List Deferred) (wr : World) : Prop :=
  ∃ (s : List B) (ps : List PrT) (wv : Value), Uni k s (ps.map prL) res sf ∧ Room sf s (ps.map prL) ∧ Bnd lo wr P S s ∧ Boxed wr (w.heap.size + 1) 136 wv ∧ wr.ownsRow w.heap.size 135 2 wv ps.length (stkQ ps.reverse) ∧
    (∀ x ∈ ps, TreeAt S w x.1.1 x.1.2 ∧ TreeAt S w x.2.1 x.2.2) ∧ (∀ b, S b → wr.heap[b]? = w.heap[b]?) ∧ Below lo w wr ∧ Marked w.heap.size wr.heap.size wr ds

/-- What makeSame tells. -/
def MsOut (lo : Nat) (S : Nat → Prop) (res : Option (List B)) (w : World) (P : Nat) (e : Ending) (w' : World) : Prop :=
  ((∃ s', res = some s' ∧ e = .returned (.bool true) ∧ Bnd lo w' P S s') ∨ (res = none ∧ e = .returned (.bool false))) ∧ (∀ b, S b → w'.heap[b]? = w.heap[b]?) ∧ Below lo w w'

theorem Bnd.shut {lo P D : Nat} {W : World} {S : Nat → Prop} {s : List B} (h : Bnd lo W P S s) (hS : ∀ b, S b → b ≠ D) (hD : W.heap[D]? = some (.deferred (some []))) : Bnd lo (W.putObj D (.deferred none)) P S s := by
  obtain ⟨ov, M, n, D1, rs, h1, h2, h3, h4, h5, h6, h7, h9, h10⟩ := h
  have other : ∀ b, b ≠ D → (W.putObj D (.deferred none)).heap[b]? = W.heap[b]? := fun b hb => World.putObj_heap_other hb
  have hsz : (W.putObj D (.deferred none)).heap.size = W.heap.size := by simp [World.putObj]
  have hPD : P ≠ D := by rintro rfl; rw [show W.heap[P]? = _ from h1] at hD; cases hD
  have hMD : M ≠ D := by
    rintro rfl
    obtain ⟨es, clock, hm, _⟩ := h5
    rw [hm] at hD; cases hD
  refine ⟨ov, M, n, D1, rs, (other P hPD).trans h1, h2, h3, ⟨own_block h4.1 (fun k e => other k (fun e' => ?_)), h4.2⟩, ?_, h6, h7, fun i hi hi' => (h9 i hi hi').kept (fun _ h => h) (fun b hb => other b (fun e => ?_)), fun b hb => by rw [hsz]; exact h10 b hb⟩
  · subst e'
    exact row_not_def h4.1 k e hD
  · obtain ⟨es, clock, hm, r⟩ := h5
    exact ⟨es, clock, (other M hMD).trans hm, r⟩
  · exact hS b hb e

/-- Where the other tree has what belongs to an argument. -/
def YQ (S : Nat → Prop) (w : World) (la : Option Addr) (m : Nat) (f : ((Nat × List C) × Nat) → PrT) (y : (Nat × List C) × Nat) : Prop := ∃ q2, la = some ⟨q2, 0, none⟩ ∧ S q2 ∧ y.2 < m ∧ w.cell? ⟨q2, y.2, none⟩ = some (.pointer (some ⟨(f y).2.1, 0, none⟩))

/-- The frame of makeSame ahead of a round. -/
def msFr (P p q h : Nat) (T : Nat → Value) (ds : List Deferred) : Act := { tmps := #[.pointer (some ⟨P, 0, none⟩), .pointer (some ⟨p, 0, none⟩), .pointer (some ⟨q, 0, none⟩), T 3, T 4, T 5, T 6, .pointer (some ⟨h + 1, 0, none⟩), T 8, T 9, T 10, T 11, T 12, .pointer (some ⟨p, 0, none⟩), .pointer (some ⟨q, 0, none⟩), .agg #[.pointer (some ⟨p, 0, none⟩), .pointer (some ⟨q, 0, none⟩)], .slice (some ⟨h, 0, none⟩) 1 1, T 17, T 18, T 19, T 20, T 21, T 22, T 23, T 24, T 25, T 26, T 27, T 28, T 29, T 30, T 31, T 32, T 33, T 34, T 35, T 36, T 37, T 38, T 39, T 40, T 41, T 42, T 43, T 44, T 45, T 46, T 47, T 48, T 49, T 50, T 51, T 52, T 53, T 54, T 55, T 56, T 57, T 58, T 59, T 60, T 61, T 62, T 63, T 64, T 65, T 66, T 67, T 68, T 69, T 70, T 71, T 72, T 73, T 74, T 75, T 76, T 77, T 78, T 79, T 80, T 81, T 82, T 83, T 84, T 85, T 86, T 87, T 88, T 89, T 90, T 91, T 92, T 93, T 94, T 95, T 96, T 97, T 98, T 99, T 100, T 101, T 102, T 103], defers := ds }
theorem frame_intro {f : (Nat → Value) → List Deferred → Act} {A : Act} {Inv : List Deferred → Prop} (h : f (fun i => A.tmps.getD i undef) A.defers = A) (hi : Inv A.defers) : ∃ (T : Nat → Value) (ds : List Deferred), Inv ds ∧ A = f T ds := ⟨_, _, hi, h.symm⟩

set_option maxRecDepth 100000 in
set_option maxHeartbeats 4000000 in
theorem makeSame_any (lo P p q : Nat) (S : Nat → Prop) (s0 sf : List B) (a b : List C) (n0 : Nat) (res : Option (List B)) (w : World) (hlo : lo ≤ w.heap.size) (hB : Bnd lo w P S s0) (hTa : TreeAt S w p a) (hTb : TreeAt S w q b) (hU : Uni n0 s0 [(a, b)] res sf) (hR : Room sf s0 [(a, b)]) :
    Calls Try.prog 68 #[.pointer (some ⟨P, 0, none⟩), .pointer (some ⟨p, 0, none⟩), .pointer (some ⟨q, 0, none⟩)] w (MsOut lo S res w P) := by
  have hSl := hB.trees
  have HB := hide hB
  have HTA := hide hTa
  have HTB := hide hTb
  have HU := hide hU
  have HR := hide hR
  clear hTa hTb hU hR hB
  refine (callsIn_wide (n := 5)).1 ?_
  refine callsIn_of_wp_marks Try.func68 rfl trivial ?_ rfl
  simp only [Try.ntmps68, List.size_toArray, List.length_cons, List.length_nil, Nat.reduceAdd, Nat.reduceSub, Array.replicate_succ, Array.replicate_zero, List.push_toArray, List.append_toArray, List.nil_append, List.cons_append]
  gi_wp2
  refine wpIn_loop_ghost_k (fun k a' wr => ∃ (T : Nat → Value) (ds : List Deferred), MsAt lo S res sf w P k ds wr ∧ a' = msFr P p q w.heap.size T ds) n0 ?_ ?_
  · refine frame_intro (by rfl) ?_
    have hb2 : Below w.heap.size w ((w.alloc (.cells #[.pointer (some ⟨p, 0, none⟩), .pointer (some ⟨q, 0, none⟩)] 135)).alloc (.cells #[.slice (some ⟨w.heap.size, 0, none⟩) 1 1] 136)) := ((Below.refl _ w).alloc (Nat.le_refl _) _).alloc (by simp) _
    refine ⟨s0, [((p, a), (q, b))], _, unhide HU, unhide HR, (unhide HB).below hb2, by have := Boxed.new (w.alloc (.cells #[.pointer (some ⟨p, 0, none⟩), .pointer (some ⟨q, 0, none⟩)] 135)) 136 (.slice (some ⟨w.heap.size, 0, none⟩) 1 1); rwa [World.size_alloc] at this, ?_, ?_, fun b hb => hb2.block b (hSl b hb), hb2.mono hlo, Marked.nil _ _ _⟩
    · refine ⟨by simp [stkQ], .inr ⟨w.heap.size, 1, #[.pointer (some ⟨p, 0, none⟩), .pointer (some ⟨q, 0, none⟩)], rfl, Nat.le_refl _, ?_, Nat.le_refl _, by simp [maxLen], rfl, by simp [stkQ]⟩⟩
      exact (Below.heap_alloc _ _ _ (by simp)).trans (World.alloc_heap_new w _)
    · intro x hx
      simp at hx
      subst hx
      exact ⟨unhide HTA, unhide HTB⟩
  · intro k _ wr hinv
    obtain ⟨T, ds, hrel, ha⟩ := hinv
    unfold msFr at ha
    subst ha
    intro _ _ _ _
    obtain ⟨s, ps, wv, hU, hR, hB, hbx, hrow, hps, hSk, hBw, hMk⟩ := hrel
    have HU1 := hide hU
    have HR1 := hide hR
    have HB1 := hide hB
    have HPS := hide hps
    have HSK := hide hSk
    have HMK := hide hMk
    have HROW := hide hrow
    have hwz := hBw.size
    obtain ⟨wa, wc, rfl, hwc⟩ := row_shape hrow
    have hcB := hbx.cell
    have hfB := hbx.frozen
    have hbl := hbx.lt
    cases ps with
    | nil =>
      have hres : res = some s := by
        have h := unhide HU1
        simp only [List.map_nil] at h
        cases h
        rfl
      clear hU hR hB hps hSk hMk hrow HU1 HR1 HPS HROW
      simp only [List.length_nil] at hcB ⊢
      gi_wp2
      exact (unhide HMK).leaves (fun W => Bnd lo W P S s ∧ (∀ b, S b → W.heap[b]? = w.heap[b]?) ∧ Below lo w W) (fun W D hg hb hD => ⟨hg.1.shut (fun b hb' => by have := hSl b hb'; omega) hD, fun b hb' => (World.putObj_heap_other (fun e => by have := hSl b hb'; omega)).trans (hg.2.1 b hb'), hg.2.2.trans ⟨rfl, rfl, rfl, by simp [World.putObj], fun k hk => World.putObj_heap_other (by omega)⟩⟩) (fun W hg => ⟨.bool true, results_tmp (t := 6) rfl _ _ _, .inl ⟨s, hres, rfl, hg.1⟩, hg.2⟩) ⟨unhide HB1, unhide HSK, hBw⟩
    | cons x r =>
      have hrow2 : wr.ownsRow w.heap.size 135 2 (.slice wa (r.length + 1) wc) (r.length + 1) (stkQ r.reverse ++ [.pointer (some ⟨x.1.1, 0, none⟩), .pointer (some ⟨x.2.1, 0, none⟩)]) := by
        have := hrow
        rw [List.reverse_cons, stkQ_append, stkQ_one] at this
        simpa using this
      obtain ⟨g, rfl, hg1, hg2, hgc, hgm, hcx, hcy⟩ := row_top2 hrow2
      have HPOP := hide (row_pop2 hrow2)
      have hcnt := hR.count
      rw [List.length_map, List.length_cons] at hcnt
      have hsl := hR.len
      obtain ⟨hta, htb⟩ := hR.prs (prL x) (by simp)
      obtain ⟨n1, X, hN1, hX⟩ := now_all hR.ok hta
      obtain ⟨n2, Y, hN2, hY⟩ := now_all hR.ok htb
      have hokT : OkT s := okB_okT hR.ok
      obtain ⟨hTx0, hTy0⟩ := hps x (by simp)
      have hTx1 : TreeAt S wr.drew x.1.1 x.1.2 := hTx0.kept (fun _ h => h) (fun b hb => hSk b hb)
      have hTy1 : TreeAt S wr.drew x.2.1 x.2.2 := hTy0.kept (fun _ h => h) (fun b hb => hSk b hb)
      have HN1 := hide (now_any lo P x.1.1 S s x.1.2 X n1 wr.drew (by omega) hB.drew hTx1 hN1 hta.2 hokT)
      have HN2 := hide (now_any lo P x.2.1 S s x.2.2 Y n2 wr.drew (by omega) hB.drew hTy1 hN2 htb.2 hokT)
      have hcB' : (wr.drew.alloc (.cells #[.pointer none] 69)).cell? ⟨w.heap.size + 1, 0, none⟩ = some (.slice (some ⟨g, 0, none⟩) (r.length + 1) wc) := ((cell_below wr.drew (.cells #[.pointer none] 69)).cell (p := ⟨w.heap.size + 1, 0, none⟩) hbl).trans hcB
      have hcx' : (wr.drew.alloc (.cells #[.pointer none] 69)).cell? ⟨g, r.length * 2, none⟩ = some (.pointer (some ⟨x.1.1, 0, none⟩)) := ((cell_below wr.drew (.cells #[.pointer none] 69)).cell (p := ⟨g, r.length * 2, none⟩) hg2).trans hcx
      have hcy' : (wr.drew.alloc (.cells #[.pointer none] 69)).cell? ⟨g, r.length * 2 + 1, none⟩ = some (.pointer (some ⟨x.2.1, 0, none⟩)) := ((cell_below wr.drew (.cells #[.pointer none] 69)).cell (p := ⟨g, r.length * 2 + 1, none⟩) hg2).trans hcy
      have hwr1 : IntKind.i64.wrap (r.length : Int) = (r.length : Int) := by
        simp [IntKind.wrap, IntKind.bits, IntKind.signed]
        omega
      have hAl : Below wr.drew.heap.size wr.drew (wr.drew.alloc (.cells #[.pointer none] 69)) := cell_below _ _
      have HN1' := hide (now_any lo P x.1.1 S s x.1.2 X n1 (wr.drew.alloc (.cells #[.pointer none] 69)) (by omega) (hB.drew.below hAl) (hTx1.kept (fun _ h => h) (fun b hb => hAl.block b (by have := hSl b hb; show b < wr.heap.size; omega))) hN1 hta.2 hokT)
      have HN2' := hide (now_any lo P x.2.1 S s x.2.2 Y n2 (wr.drew.alloc (.cells #[.pointer none] 69)) (by omega) (hB.drew.below hAl) (hTy1.kept (fun _ h => h) (fun b hb => hAl.block b (by have := hSl b hb; show b < wr.heap.size; omega))) hN2 htb.2 hokT)
      clear hAl
      have HX := hide hX
      have HY := hide hY
      have HNX := hide hN1
      have HNY := hide hN2
      clear hU hR hB hps hSk hMk hrow hrow2 hTx0 hTy0 hTx1 hTy1 hta htb hX hY hN1 hN2 HROW
      simp only [List.length_cons] at hcB hwc ⊢
      gi_wp2
      refine wpIn_mono (Q := fun e a' w' => e = .normal ∧ ∃ px py, TreeAt S w px X ∧ TreeAt S w py Y ∧ a' = { tmps := #[.pointer (some ⟨P, 0, none⟩), .pointer (some ⟨p, 0, none⟩), .pointer (some ⟨q, 0, none⟩), T 3, T 4, T 5, T 6, .pointer (some ⟨w.heap.size + 1, 0, none⟩), .pointer (some ⟨px, 0, none⟩), .pointer (some ⟨wr.heap.size, 0, none⟩), T 10, T 11, T 12, .pointer (some ⟨p, 0, none⟩), .pointer (some ⟨q, 0, none⟩), .agg #[.pointer (some ⟨p, 0, none⟩), .pointer (some ⟨q, 0, none⟩)], .slice (some ⟨w.heap.size, 0, none⟩) 1 1, Value.slice (some ⟨g, 0, none⟩) (r.length + 1) wc, .int .i64 ((r.length : Int) + 1), .bool true, .pointer (some ⟨P, 0, none⟩), Value.slice (some ⟨g, 0, none⟩) (r.length + 1) wc, Value.slice (some ⟨g, 0, none⟩) (r.length + 1) wc, .int .i64 ((r.length : Int) + 1), .int .i64 (r.length : Int), .pointer (some ⟨g, r.length * 2, none⟩), .pointer (some ⟨g, r.length * 2, none⟩), .pointer (some ⟨x.1.1, 0, none⟩), .pointer (some ⟨px, 0, none⟩), .pointer (some ⟨P, 0, none⟩), Value.slice (some ⟨g, 0, none⟩) (r.length + 1) wc, Value.slice (some ⟨g, 0, none⟩) (r.length + 1) wc, .int .i64 ((r.length : Int) + 1), .int .i64 (r.length : Int), .pointer (some ⟨g, r.length * 2, none⟩), .pointer (some ⟨g, r.length * 2 + 1, none⟩), .pointer (some ⟨x.2.1, 0, none⟩), .pointer (some ⟨py, 0, none⟩), T 38, T 39, T 40, T 41, T 42, T 43, T 44, T 45, T 46, T 47, T 48, T 49, T 50, T 51, T 52, T 53, T 54, T 55, T 56, T 57, T 58, T 59, T 60, T 61, T 62, T 63, T 64, T 65, T 66, T 67, T 68, T 69, T 70, T 71, T 72, T 73, T 74, T 75, T 76, T 77, T 78, T 79, T 80, T 81, T 82, T 83, T 84, T 85, T 86, T 87, T 88, T 89, T 90, T 91, T 92, T 93, T 94, T 95, T 96, T 97, T 98, T 99, T 100, T 101, T 102, T 103], defers := ds } ∧ w' = (wr.alloc (.cells #[.pointer (some ⟨py, 0, none⟩)] 69)).drew) ?first ?rest
      case first =>
        refine region_wide (fun w' => w'.cell? ⟨w.heap.size + 1, 0, none⟩ = some (.slice (some ⟨g, 0, none⟩) (r.length + 1) wc) ∧ w'.cell? ⟨g, r.length * 2, none⟩ = some (.pointer (some ⟨x.1.1, 0, none⟩)) ∧ w'.cell? ⟨g, r.length * 2 + 1, none⟩ = some (.pointer (some ⟨x.2.1, 0, none⟩))) (by kernel_rfl) (by intro o ho c; simp at ho; rcases ho with (rfl | ho) <;> first | (simp; done) | (revert ho; intro ho; repeat' (rcases ho with (rfl | ho))) <;> simp_all) ?_
        refine wpAnyH_take (i := 0) (v := ?v0) rfl (by kernel_rfl) (by kernel_rfl) (by kernel_rfl) (fun _ _ _ h => quiet_panic h) (Or.inl ⟨by rfl, ?y0⟩) (⟨hcB, hcx, hcy⟩) ?_
        case y0 => (intro w' hw'; obtain ⟨k1, k2, k3⟩ := hw'; go_simp; first | done | with_reducible rfl | (intro hq; omega))
        simp only [Act.put, List.getElem_toArray, List.getElem_cons_zero, List.getElem_cons_succ, List.setIfInBounds_toArray, List.set_cons_zero, List.set_cons_succ]
        refine wpAnyH_take (i := 1) (v := ?v1) rfl (by kernel_rfl) (by kernel_rfl) (by kernel_rfl) (fun _ _ _ h => quiet_panic h) (Or.inl ⟨by rfl, ?y1⟩) (⟨hcB, hcx, hcy⟩) ?_
        case y1 => (intro w' hw'; obtain ⟨k1, k2, k3⟩ := hw'; go_simp; first | done | with_reducible rfl | (intro hq; omega))
        simp only [Act.put, List.getElem_toArray, List.getElem_cons_zero, List.getElem_cons_succ, List.setIfInBounds_toArray, List.set_cons_zero, List.set_cons_succ]
        refine wpAnyH_take (i := 2) (v := ?v2) rfl (by kernel_rfl) (by kernel_rfl) (by kernel_rfl) (fun _ _ _ h => quiet_panic h) (Or.inl ⟨by rfl, ?y2⟩) (⟨hcB, hcx, hcy⟩) ?_
        case y2 => (intro w' hw'; obtain ⟨k1, k2, k3⟩ := hw'; go_simp; first | done | with_reducible rfl | (intro hq; omega))
        simp only [Act.put, List.getElem_toArray, List.getElem_cons_zero, List.getElem_cons_succ, List.setIfInBounds_toArray, List.set_cons_zero, List.set_cons_succ]
        refine wpAnyH_take (i := 3) (v := (.int .i64 ((r.length : Int) + 1))) rfl (by kernel_rfl) (by kernel_rfl) (by kernel_rfl) (fun _ _ _ h => quiet_panic h) (Or.inl ⟨by rfl, ?y3⟩) (⟨hcB, hcx, hcy⟩) ?_
        case y3 => (intro w' hw'; obtain ⟨k1, k2, k3⟩ := hw'; go_simp; first | done | with_reducible rfl | (intro hq; omega))
        simp only [Act.put, List.getElem_toArray, List.getElem_cons_zero, List.getElem_cons_succ, List.setIfInBounds_toArray, List.set_cons_zero, List.set_cons_succ]
        refine wpAnyH_take (i := 4) (v := (.int .i64 (r.length : Int))) rfl (by kernel_rfl) (by kernel_rfl) (by kernel_rfl) (fun _ _ _ h => quiet_panic h) (Or.inl ⟨by rfl, ?y4⟩) (⟨hcB, hcx, hcy⟩) ?_
        case y4 => (intro w' hw'; obtain ⟨k1, k2, k3⟩ := hw'; go_simp; first | done | with_reducible rfl | (intro hq; omega))
        simp only [Act.put, List.getElem_toArray, List.getElem_cons_zero, List.getElem_cons_succ, List.setIfInBounds_toArray, List.set_cons_zero, List.set_cons_succ]
        refine wpAnyH_take (i := 5) (v := (.pointer (some ⟨g, r.length * 2, none⟩))) rfl (by kernel_rfl) (by kernel_rfl) (by kernel_rfl) (fun _ _ _ h => quiet_panic h) (Or.inl ⟨by rfl, ?y5⟩) (⟨hcB, hcx, hcy⟩) ?_
        case y5 => (intro w' hw'; obtain ⟨k1, k2, k3⟩ := hw'; go_simp; first | done | with_reducible rfl | (intro hq; omega))
        simp only [Act.put, List.getElem_toArray, List.getElem_cons_zero, List.getElem_cons_succ, List.setIfInBounds_toArray, List.set_cons_zero, List.set_cons_succ]
        refine wpAnyH_take (i := 6) (v := (.pointer (some ⟨g, r.length * 2, none⟩))) rfl (by kernel_rfl) (by kernel_rfl) (by kernel_rfl) (fun _ _ _ h => quiet_panic h) (Or.inl ⟨by rfl, ?y6⟩) (⟨hcB, hcx, hcy⟩) ?_
        case y6 => (intro w' hw'; obtain ⟨k1, k2, k3⟩ := hw'; go_simp; first | done | with_reducible rfl | (intro hq; omega))
        simp only [Act.put, List.getElem_toArray, List.getElem_cons_zero, List.getElem_cons_succ, List.setIfInBounds_toArray, List.set_cons_zero, List.set_cons_succ]
        refine wpAnyH_take (i := 7) (v := (.pointer (some ⟨x.1.1, 0, none⟩))) rfl (by kernel_rfl) (by kernel_rfl) (by kernel_rfl) (fun _ _ _ h => quiet_panic h) (Or.inl ⟨by rfl, ?y7⟩) (⟨hcB, hcx, hcy⟩) ?_
        case y7 => (intro w' hw'; obtain ⟨k1, k2, k3⟩ := hw'; go_simp; first | done | with_reducible rfl | (intro hq; omega))
        simp only [Act.put, List.getElem_toArray, List.getElem_cons_zero, List.getElem_cons_succ, List.setIfInBounds_toArray, List.set_cons_zero, List.set_cons_succ]
        refine wpAnyH_take (i := 9) (v := ?v9) rfl (by kernel_rfl) (by kernel_rfl) (by kernel_rfl) (fun _ _ _ h => quiet_panic h) (Or.inl ⟨by rfl, ?y9⟩) (⟨hcB, hcx, hcy⟩) ?_
        case y9 => (intro w' hw'; obtain ⟨k1, k2, k3⟩ := hw'; go_simp; first | done | with_reducible rfl | (intro hq; omega))
        simp only [Act.put, List.getElem_toArray, List.getElem_cons_zero, List.getElem_cons_succ, List.setIfInBounds_toArray, List.set_cons_zero, List.set_cons_succ]
        refine wpAnyH_take (i := 10) (v := ?v10) rfl (by kernel_rfl) (by kernel_rfl) (by kernel_rfl) (fun _ _ _ h => quiet_panic h) (Or.inl ⟨by rfl, ?y10⟩) (⟨hcB, hcx, hcy⟩) ?_
        case y10 => (intro w' hw'; obtain ⟨k1, k2, k3⟩ := hw'; go_simp; first | done | with_reducible rfl | (intro hq; omega))
        simp only [Act.put, List.getElem_toArray, List.getElem_cons_zero, List.getElem_cons_succ, List.setIfInBounds_toArray, List.set_cons_zero, List.set_cons_succ]
        refine wpAnyH_take (i := 11) (v := ?v11) rfl (by kernel_rfl) (by kernel_rfl) (by kernel_rfl) (fun _ _ _ h => quiet_panic h) (Or.inl ⟨by rfl, ?y11⟩) (⟨hcB, hcx, hcy⟩) ?_
        case y11 => (intro w' hw'; obtain ⟨k1, k2, k3⟩ := hw'; go_simp; first | done | with_reducible rfl | (intro hq; omega))
        simp only [Act.put, List.getElem_toArray, List.getElem_cons_zero, List.getElem_cons_succ, List.setIfInBounds_toArray, List.set_cons_zero, List.set_cons_succ]
        refine wpAnyH_take (i := 12) (v := (.int .i64 ((r.length : Int) + 1))) rfl (by kernel_rfl) (by kernel_rfl) (by kernel_rfl) (fun _ _ _ h => quiet_panic h) (Or.inl ⟨by rfl, ?y12⟩) (⟨hcB, hcx, hcy⟩) ?_
        case y12 => (intro w' hw'; obtain ⟨k1, k2, k3⟩ := hw'; go_simp; first | done | with_reducible rfl | (intro hq; omega))
        simp only [Act.put, List.getElem_toArray, List.getElem_cons_zero, List.getElem_cons_succ, List.setIfInBounds_toArray, List.set_cons_zero, List.set_cons_succ]
        refine wpAnyH_take (i := 13) (v := (.int .i64 (r.length : Int))) rfl (by kernel_rfl) (by kernel_rfl) (by kernel_rfl) (fun _ _ _ h => quiet_panic h) (Or.inl ⟨by rfl, ?y13⟩) (⟨hcB, hcx, hcy⟩) ?_
        case y13 => (intro w' hw'; obtain ⟨k1, k2, k3⟩ := hw'; go_simp; first | done | with_reducible rfl | (intro hq; omega))
        simp only [Act.put, List.getElem_toArray, List.getElem_cons_zero, List.getElem_cons_succ, List.setIfInBounds_toArray, List.set_cons_zero, List.set_cons_succ]
        refine wpAnyH_take (i := 14) (v := (.pointer (some ⟨g, r.length * 2, none⟩))) rfl (by kernel_rfl) (by kernel_rfl) (by kernel_rfl) (fun _ _ _ h => quiet_panic h) (Or.inl ⟨by rfl, ?y14⟩) (⟨hcB, hcx, hcy⟩) ?_
        case y14 => (intro w' hw'; obtain ⟨k1, k2, k3⟩ := hw'; go_simp; first | done | with_reducible rfl | (intro hq; omega))
        simp only [Act.put, List.getElem_toArray, List.getElem_cons_zero, List.getElem_cons_succ, List.setIfInBounds_toArray, List.set_cons_zero, List.set_cons_succ]
        refine wpAnyH_take (i := 15) (v := (.pointer (some ⟨g, r.length * 2 + 1, none⟩))) rfl (by kernel_rfl) (by kernel_rfl) (by kernel_rfl) (fun _ _ _ h => quiet_panic h) (Or.inl ⟨by rfl, ?y15⟩) (⟨hcB, hcx, hcy⟩) ?_
        case y15 => (intro w' hw'; obtain ⟨k1, k2, k3⟩ := hw'; go_simp; first | done | with_reducible rfl | (intro hq; omega))
        simp only [Act.put, List.getElem_toArray, List.getElem_cons_zero, List.getElem_cons_succ, List.setIfInBounds_toArray, List.set_cons_zero, List.set_cons_succ]
        refine wpAnyH_take (i := 16) (v := (.pointer (some ⟨x.2.1, 0, none⟩))) rfl (by kernel_rfl) (by kernel_rfl) (by kernel_rfl) (fun _ _ _ h => quiet_panic h) (Or.inl ⟨by rfl, ?y16⟩) (⟨hcB, hcx, hcy⟩) ?_
        case y16 => (intro w' hw'; obtain ⟨k1, k2, k3⟩ := hw'; go_simp; first | done | with_reducible rfl | (intro hq; omega))
        simp only [Act.put, List.getElem_toArray, List.getElem_cons_zero, List.getElem_cons_succ, List.setIfInBounds_toArray, List.set_cons_zero, List.set_cons_succ]
        refine wpAnyH_ready (rs := [8, 18]) (by kernel_rfl) (by simp) ?_
        refine AllReadyH.cons rfl (fun K hK => ?_) (AllReadyH.cons rfl (fun K hK => ?_) AllReadyH.nil)
        · go_simp
          refine (unhide HN1).mono ?_
          rintro e w1' ⟨hwe, hn1⟩
          subst hwe
          obtain ⟨px, rfl, hT1', _⟩ := hn1
          have hTX : TreeAt S w px X := hT1'.kept (fun _ h => h) (fun b hb => (unhide HSK b hb).symm)
          clear hT1'
          refine Shut.out hK _ _ (⟨hcB, hcx, hcy⟩) (fun _ => ?_)
          clear hK K
          try (simp only [Act.put, List.getElem_toArray, List.getElem_cons_zero, List.getElem_cons_succ, List.setIfInBounds_toArray, List.set_cons_zero, List.set_cons_succ])
          refine wpAnyH_ready (rs := [17, 18]) (by kernel_rfl) (by simp) ?_
          refine AllReadyH.cons rfl (fun K hK => ?_) (AllReadyH.cons rfl (fun K hK => ?_) AllReadyH.nil)
          · go_simp
            refine (unhide HN2).mono ?_
            rintro e w1' ⟨hwe, hn1⟩
            subst hwe
            obtain ⟨py, rfl, hT1', _⟩ := hn1
            have hTY : TreeAt S w py Y := hT1'.kept (fun _ h => h) (fun b hb => (unhide HSK b hb).symm)
            clear hT1'
            refine Shut.out hK _ _ (⟨hcB, hcx, hcy⟩) (fun _ => ?_)
            clear hK K
            try (simp only [Act.put, List.getElem_toArray, List.getElem_cons_zero, List.getElem_cons_succ, List.setIfInBounds_toArray, List.set_cons_zero, List.set_cons_succ])
            refine wpAnyH_ready (rs := [18]) (by kernel_rfl) (by simp) ?_
            refine AllReadyH.cons rfl (fun K hK => ?_) AllReadyH.nil
            go_simp
            refine Shut.out hK _ _ (⟨hcB', hcx', hcy'⟩) (fun _ => ?_)
            clear hK K
            try (simp only [Act.put, List.getElem_toArray, List.getElem_cons_zero, List.getElem_cons_succ, List.setIfInBounds_toArray, List.set_cons_zero, List.set_cons_succ])
            refine wpAnyH_take (i := 19) (v := ?v19a) rfl (by kernel_rfl) (by kernel_rfl) (by kernel_rfl) (fun _ _ _ h => quiet_panic h) (Or.inl ⟨by rfl, ?y19a⟩) (⟨hcB', hcx', hcy'⟩) ?_
            case y19a => (intro w' hw'; obtain ⟨k1, k2, k3⟩ := hw'; go_simp; first | done | with_reducible rfl | (intro hq; omega))
            simp only [Act.put, List.getElem_toArray, List.getElem_cons_zero, List.getElem_cons_succ, List.setIfInBounds_toArray, List.set_cons_zero, List.set_cons_succ]
            refine wpAnyH_ready (rs := [20]) (by kernel_rfl) (by simp) ?_
            refine AllReadyH.cons rfl (fun K hK => ?_) AllReadyH.nil
            go_simp
            have hB20 := cell_below wr (.cells #[.pointer (some ⟨py, 0, none⟩)] 69)
            refine Shut.out hK _ _ (⟨(hB20.cell (p := ⟨w.heap.size + 1, 0, none⟩) hbl).trans hcB, (hB20.cell (p := ⟨g, r.length * 2, none⟩) hg2).trans hcx, (hB20.cell (p := ⟨g, r.length * 2 + 1, none⟩) hg2).trans hcy⟩) (fun _ => ?_)
            clear hK K
            try (simp only [Act.put, List.getElem_toArray, List.getElem_cons_zero, List.getElem_cons_succ, List.setIfInBounds_toArray, List.set_cons_zero, List.set_cons_succ])
            refine wpAnyH_done (by kernel_rfl) ?_ _
            refine ⟨rfl, rfl, px, py, hTX, hTY, rfl, rfl⟩
          · go_simp
            refine Shut.out hK _ _ (⟨hcB', hcx', hcy'⟩) (fun _ => ?_)
            clear hK K
            try (simp only [Act.put, List.getElem_toArray, List.getElem_cons_zero, List.getElem_cons_succ, List.setIfInBounds_toArray, List.set_cons_zero, List.set_cons_succ])
            refine wpAnyH_ready (rs := [17]) (by kernel_rfl) (by simp) ?_
            refine AllReadyH.cons rfl (fun K hK => ?_) AllReadyH.nil
            go_simp
            refine (unhide HN2').mono ?_
            rintro e w1' ⟨hwe, hn1⟩
            subst hwe
            obtain ⟨py, rfl, hT1', _⟩ := hn1
            have hTY : TreeAt S w py Y := hT1'.kept (fun _ h => h) (fun b hb => ((Below.heap_alloc wr.drew _ b (by have := hSl b hb; show b < wr.heap.size; omega)).trans (unhide HSK b hb)).symm)
            clear hT1'
            refine Shut.out hK _ _ (⟨hcB', hcx', hcy'⟩) (fun _ => ?_)
            clear hK K
            try (simp only [Act.put, List.getElem_toArray, List.getElem_cons_zero, List.getElem_cons_succ, List.setIfInBounds_toArray, List.set_cons_zero, List.set_cons_succ])
            refine wpAnyH_take (i := 19) (v := ?v19b) rfl (by kernel_rfl) (by kernel_rfl) (by kernel_rfl) (fun _ _ _ h => quiet_panic h) (Or.inl ⟨by rfl, ?y19b⟩) (⟨hcB', hcx', hcy'⟩) ?_
            case y19b => (intro w' hw'; obtain ⟨k1, k2, k3⟩ := hw'; go_simp; first | done | with_reducible rfl | (intro hq; omega))
            simp only [Act.put, List.getElem_toArray, List.getElem_cons_zero, List.getElem_cons_succ, List.setIfInBounds_toArray, List.set_cons_zero, List.set_cons_succ]
            refine wpAnyH_ready (rs := [20]) (by kernel_rfl) (by simp) ?_
            refine AllReadyH.cons rfl (fun K hK => ?_) AllReadyH.nil
            go_simp
            have hB20 := cell_below wr (.cells #[.pointer (some ⟨py, 0, none⟩)] 69)
            refine Shut.out hK _ _ (⟨(hB20.cell (p := ⟨w.heap.size + 1, 0, none⟩) hbl).trans hcB, (hB20.cell (p := ⟨g, r.length * 2, none⟩) hg2).trans hcx, (hB20.cell (p := ⟨g, r.length * 2 + 1, none⟩) hg2).trans hcy⟩) (fun _ => ?_)
            clear hK K
            try (simp only [Act.put, List.getElem_toArray, List.getElem_cons_zero, List.getElem_cons_succ, List.setIfInBounds_toArray, List.set_cons_zero, List.set_cons_succ])
            refine wpAnyH_done (by kernel_rfl) ?_ _
            refine ⟨rfl, rfl, px, py, hTX, hTY, rfl, rfl⟩
        · go_simp
          refine Shut.out hK _ _ (⟨hcB', hcx', hcy'⟩) (fun _ => ?_)
          clear hK K
          try (simp only [Act.put, List.getElem_toArray, List.getElem_cons_zero, List.getElem_cons_succ, List.setIfInBounds_toArray, List.set_cons_zero, List.set_cons_succ])
          refine wpAnyH_ready (rs := [8]) (by kernel_rfl) (by simp) ?_
          refine AllReadyH.cons rfl (fun K hK => ?_) AllReadyH.nil
          go_simp
          refine (unhide HN1').mono ?_
          rintro e w1' ⟨hwe, hn1⟩
          subst hwe
          obtain ⟨px, rfl, hT1', _⟩ := hn1
          have hTX : TreeAt S w px X := hT1'.kept (fun _ h => h) (fun b hb => ((Below.heap_alloc wr.drew _ b (by have := hSl b hb; show b < wr.heap.size; omega)).trans (unhide HSK b hb)).symm)
          clear hT1'
          refine Shut.out hK _ _ (⟨hcB', hcx', hcy'⟩) (fun _ => ?_)
          clear hK K
          try (simp only [Act.put, List.getElem_toArray, List.getElem_cons_zero, List.getElem_cons_succ, List.setIfInBounds_toArray, List.set_cons_zero, List.set_cons_succ])
          refine wpAnyH_ready (rs := [17]) (by kernel_rfl) (by simp) ?_
          refine AllReadyH.cons rfl (fun K hK => ?_) AllReadyH.nil
          go_simp
          refine (unhide HN2').mono ?_
          rintro e w1' ⟨hwe, hn1⟩
          subst hwe
          obtain ⟨py, rfl, hT1', _⟩ := hn1
          have hTY : TreeAt S w py Y := hT1'.kept (fun _ h => h) (fun b hb => ((Below.heap_alloc wr.drew _ b (by have := hSl b hb; show b < wr.heap.size; omega)).trans (unhide HSK b hb)).symm)
          clear hT1'
          refine Shut.out hK _ _ (⟨hcB', hcx', hcy'⟩) (fun _ => ?_)
          clear hK K
          try (simp only [Act.put, List.getElem_toArray, List.getElem_cons_zero, List.getElem_cons_succ, List.setIfInBounds_toArray, List.set_cons_zero, List.set_cons_succ])
          refine wpAnyH_take (i := 19) (v := ?v19c) rfl (by kernel_rfl) (by kernel_rfl) (by kernel_rfl) (fun _ _ _ h => quiet_panic h) (Or.inl ⟨by rfl, ?y19c⟩) (⟨hcB', hcx', hcy'⟩) ?_
          case y19c => (intro w' hw'; obtain ⟨k1, k2, k3⟩ := hw'; go_simp; first | done | with_reducible rfl | (intro hq; omega))
          simp only [Act.put, List.getElem_toArray, List.getElem_cons_zero, List.getElem_cons_succ, List.setIfInBounds_toArray, List.set_cons_zero, List.set_cons_succ]
          refine wpAnyH_ready (rs := [20]) (by kernel_rfl) (by simp) ?_
          refine AllReadyH.cons rfl (fun K hK => ?_) AllReadyH.nil
          go_simp
          have hB20 := cell_below wr (.cells #[.pointer (some ⟨py, 0, none⟩)] 69)
          refine Shut.out hK _ _ (⟨(hB20.cell (p := ⟨w.heap.size + 1, 0, none⟩) hbl).trans hcB, (hB20.cell (p := ⟨g, r.length * 2, none⟩) hg2).trans hcx, (hB20.cell (p := ⟨g, r.length * 2 + 1, none⟩) hg2).trans hcy⟩) (fun _ => ?_)
          clear hK K
          try (simp only [Act.put, List.getElem_toArray, List.getElem_cons_zero, List.getElem_cons_succ, List.setIfInBounds_toArray, List.set_cons_zero, List.set_cons_succ])
          refine wpAnyH_done (by kernel_rfl) ?_ _
          refine ⟨rfl, rfl, px, py, hTX, hTY, rfl, rfl⟩
      case rest =>
        rintro e a' w' ⟨rfl, px, py, hTX, hTY, rfl, rfl⟩
        clear HN1 HN2 HN1' HN2' hcB' hcx' hcy'
        obtain ⟨c, ks1, ka, kc, eX, hSx, hk3, hka, hnx, hkr, hkt⟩ := hTX.parts
        obtain ⟨d, ks2, la, lc, eY, hSy, hl3, hla, hny, hlr, hlt⟩ := hTY.parts
        subst eX
        subst eY
        have hM0 : MsM lo S w P s ds wr := ⟨unhide HB1, unhide HSK, hBw, unhide HMK⟩
        have hSn1 : ∀ b, S b → b ≠ w.heap.size + 1 := fun b hb => by have := hSl b hb; omega
        have hRm := unhide HR1
        have HLX := hide ((unhide HNX).len hRm.getlen (hRm.short (prL x) (by simp)).1)
        have HLY := hide ((unhide HNY).len hRm.getlen (hRm.short (prL x) (by simp)).2)
        have HOKT : Hid (∀ u, (∀ c ∈ getB s u, okC c = true) ∧ (getB s u).length ≤ 40) := fun u => ⟨okB_okT hRm.ok u, hRm.getlen u⟩
        clear hRm
        gi_wp2
        obtain ⟨W4, hW4⟩ : ∃ W4, ((wr.setCell ⟨w.heap.size + 1, 0, none⟩ (.slice (some ⟨g, 0, none⟩) r.length wc)).alloc (.cells #[.pointer (some ⟨py, 0, none⟩)] 69)).drew = W4 := ⟨_, rfl⟩
        rw [hW4]
        have hM4 : MsM lo S w P s ds W4 := by
          rw [← hW4]
          exact ((hM0.setc hbx (by decide) (by decide) (by omega) hSn1).alloc (by simp; omega) (fun b hb => by have := hSl b hb; simp; omega) _).drew
        have hbx4 : Boxed W4 (w.heap.size + 1) 136 (.slice (some ⟨g, 0, none⟩) r.length wc) := by rw [← hW4]; exact (hbx.set _).alloc _
        have hby4 : Boxed W4 wr.heap.size 69 (.pointer (some ⟨py, 0, none⟩)) := by
          rw [← hW4]
          have := Boxed.new (wr.setCell ⟨w.heap.size + 1, 0, none⟩ (.slice (some ⟨g, 0, none⟩) r.length wc)) 69 (.pointer (some ⟨py, 0, none⟩))
          simp only [World.size_setCell] at this
          exact this
        have hrow4 : W4.ownsRow w.heap.size 135 2 (.slice (some ⟨g, 0, none⟩) r.length wc) r.length (stkQ r.reverse) := by
          rw [← hW4]
          exact World.ownsRow.drew (World.ownsRow.alloc ((unhide HPOP).kept (grownBy_setCell' wr _ _) (.inr (hbx.not_row (by decide) (unhide HPOP)).symm)) _)
        clear hW4 hM0 HPOP hcB hcx hcy hbx hfB
        have hz4 := hby4.lt
        have hnX4 : Node W4 px c (.slice ka ks1.length kc) := (hM4.sk px hSx).trans hnx
        have hnY4 : Node W4 py d (.slice la ks2.length lc) := (hM4.sk py hSy).trans hny
        obtain ⟨x0, x1, x2⟩ := hnX4.cells
        obtain ⟨y0, y1, y2⟩ := hnY4.cells
        have x3 := hnX4.cell
        have y3 := hnY4.cell
        have cby := hby4.cell
        have heq := eql_cell c d
        have HNEXT : Hid (∀ (v : Int) (y : List C) (n' : Nat) (w2 : World), Uni n' (s ++ [⟨v, y⟩]) (r.map prL) res sf → Room sf (s ++ [⟨v, y⟩]) (r.map prL) → Bnd lo w2 P S (s ++ [⟨v, y⟩]) → Below lo W4 w2 → (∀ b, S b → w2.heap[b]? = W4.heap[b]?) → Keep3 W4 w2 → MsAt lo S res sf w P n' ds w2) := fun v y n' w2 h1 h2 h3 h4 h5 h6 =>
          ⟨s ++ [⟨v, y⟩], r, _, h1, h2, h3, keep3_boxed hbx4 h6 (by decide) (by decide), keep3_row hrow4 h6 (by decide) (by decide), fun z hz => unhide HPS z (by simp [hz]), fun b hb => (h5 b hb).trans (hM4.sk b hb), hM4.below.trans h4, (hM4.mkd.keep3 h6).mono h6.1⟩
        cases hsm : same c d with
        | true =>
          rw [hsm] at heq
          obtain rfl : c = d := same_of hsm
          clear hsm HNEXT
          have hll : ks1.length = ks2.length := by omega
          have hok1 := (unhide HX).2
          have hok2 := (unhide HY).2
          have hT1 : ∀ z ∈ ks1, Trm z.2 := fun z hz => (hkt z hz).trm (fun c' hc' => hok1 c' (List.mem_cons_of_mem _ (List.mem_flatten.2 ⟨z.2, List.mem_map.2 ⟨z, hz, rfl⟩, hc'⟩)))
          have hT2 : ∀ z ∈ ks2, Trm z.2 := fun z hz => (hlt z hz).trm (fun c' hc' => hok2 c' (List.mem_cons_of_mem _ (List.mem_flatten.2 ⟨z.2, List.mem_map.2 ⟨z, hz, rfl⟩, hc'⟩)))
          have hm1 : ∀ z ∈ ks1.map (fun z : Nat × List C => z.2), Trm z := fun z hz => by obtain ⟨y, hy, rfl⟩ := List.mem_map.1 hz; exact hT1 y hy
          have hm2 : ∀ z ∈ ks2.map (fun z : Nat × List C => z.2), Trm z := fun z hz => by obtain ⟨y, hy, rfl⟩ := List.mem_map.1 hz; exact hT2 y hy
          obtain ⟨n', hkn, hU'⟩ := uni_same (unhide HU1) (unhide HNX) (unhide HNY) hm1 hm2
          have hR' := (unhide HR1).args (unhide HNX) (unhide HNY) hm1 hm2 (by simpa using hka) (by simpa using hla)
          have hzip : (ks1.map (fun z : Nat × List C => z.2)).zip (ks2.map (fun z : Nat × List C => z.2)) ++ r.map prL = (ks1.zip ks2 ++ r).map prL := by
            rw [List.map_append, List.zip_map]
            rfl
          rw [hzip] at hU' hR'
          have HU2 := hide hU'
          have HR2 := hide hR'
          have HT3 : Hid (∀ z ∈ ks1.zip ks2, TreeAt S w z.1.1 z.1.2 ∧ TreeAt S w z.2.1 z.2.2) := fun z hz => ⟨hkt z.1 (List.of_mem_zip hz).1, hlt z.2 (List.of_mem_zip hz).2⟩
          obtain ⟨xs, hxs⟩ : ∃ xs : List ((Nat × List C) × Nat), xs = ks1.zipIdx.reverse := ⟨_, rfl⟩
          obtain ⟨f, hf⟩ : ∃ f : ((Nat × List C) × Nat) → PrT, f = fun y => (y.1, ks2.getD y.2 (0, [])) := ⟨_, rfl⟩
          have hxl : xs.length = ks1.length := by rw [hxs]; simp
          have HXF : Hid (xs.map f = (ks1.zip ks2).reverse) := by
            show xs.map f = (ks1.zip ks2).reverse
            rw [hxs, hf, List.map_reverse]
            congr 1
            apply List.ext_getElem
            · simp [hll]
            · intro i h1 h2
              simp at h1 h2 ⊢
              rw [List.getElem?_eq_getElem (by omega)]
              rfl
          have hix : ∀ j, (h : j < xs.length) → xs[j].2 + j + 1 = xs.length := by intro j h; subst hxs; simp at h ⊢; omega
          have hxk : ∀ j, (h : j < xs.length) → ∃ h' : xs[j].2 < ks1.length, ks1[xs[j].2] = xs[j].1 := by
            intro j h
            subst hxs
            simp at h ⊢
            omega
          have HMEM : Hid (∀ y ∈ xs, YQ S w la ks2.length f y) := fun y hy => by
            obtain ⟨j, hj, rfl⟩ := List.getElem_of_mem hy
            obtain ⟨h', _⟩ := hxk j hj
            have h2 : xs[j].2 < ks2.length := by omega
            rcases hlr with h0 | ⟨q2, e, hq, hcc⟩
            · rw [h0] at h2; simp at h2
            · refine ⟨q2, e, hq, h2, ?_⟩
              rw [hf]
              have := hcc _ h2
              simp only [List.getD_eq_getElem?_getD, List.getElem?_eq_getElem h2, Option.getD_some]
              exact this
          have HKC : Hid (xs = [] ∨ ∃ q, ka = some ⟨q, 0, none⟩ ∧ S q ∧ ∀ j, (h : j < xs.length) → w.cell? ⟨q, xs[j].2, none⟩ = some (.pointer (some ⟨xs[j].1.1, 0, none⟩))) := by
            rcases hkr with hk0 | ⟨q, e, hq, hkr⟩
            · left
              rw [hk0] at hxl
              exact List.length_eq_zero_iff.1 (by simpa using hxl)
            · right
              refine ⟨q, e, hq, fun j h => ?_⟩
              obtain ⟨h', e'⟩ := hxk j h
              have h2 := hkr _ h'
              rw [e'] at h2
              exact h2
          obtain ⟨xz, hxz⟩ := lift_sub xs (unhide HMEM)
          have hxl : xz.length = ks1.length := by rw [← hxl, ← hxz]; simp
          have hix : ∀ j, (h : j < xz.length) → xz[j].1.2 + j + 1 = xz.length := by
            intro j h
            have := hix j (by rw [← hxz]; simpa using h)
            subst hxz
            simpa using this
          have HKC : Hid (xz = [] ∨ ∃ q, ka = some ⟨q, 0, none⟩ ∧ S q ∧ ∀ j, (h : j < xz.length) → w.cell? ⟨q, xz[j].1.2, none⟩ = some (.pointer (some ⟨xz[j].1.1.1, 0, none⟩))) := by
            have hkc := unhide HKC
            subst hxz
            rcases hkc with h | ⟨q, e, hq, hcc⟩
            · exact .inl (by simpa using h)
            · exact .inr ⟨q, e, hq, fun j h => by have h9 := hcc j (by simpa using h); rw [List.getElem_map] at h9; exact h9⟩
          have HXF : Hid (xz.map (fun y => f y.1) = (ks1.zip ks2).reverse) := by
            have hxf := unhide HXF
            subst hxz
            rw [List.map_map] at hxf
            exact hxf
          clear hxz HMEM
          have bK := Boxed.new W4 93 (.slice ka ks1.length kc)
          have hk40 : Kp4 w.heap.size (w.heap.size + 1) W4 (W4.alloc (.cells #[.slice ka ks1.length kc] 93)).drew := ⟨rfl, rfl, rfl, by show W4.heap.size ≤ (W4.alloc (.cells #[.slice ka ks1.length kc] 93)).heap.size; simp, fun k hk _ _ => (Below.heap_alloc W4 _ k hk)⟩
          have HLL := hide hll
          have HF1 : Hid (∀ y, (f y).1 = y.1) := by
            intro y
            rw [hf]
          clear hll hU' hR' hzip hxs hf hT1 hT2 hm1 hm2 hok1 hok2 hkt hlt hkr hlr hnx hny hxk
          gi_wp2
          refine region_wide (fun w' => w' = W4.drew) (by kernel_rfl) (by intro o ho c; simp at ho; rcases ho with (rfl | ho) <;> first | (simp; done) | (revert ho; intro ho; repeat' (rcases ho with (rfl | ho))) <;> simp_all) ?_
          refine wpAnyH_take (i := 0) (v := ?v0q) rfl (by kernel_rfl) (by kernel_rfl) (by kernel_rfl) (fun _ _ _ h => quiet_panic h) (Or.inl ⟨by rfl, ?y0q⟩) (rfl) ?_
          case y0q => (intro w' hw'; subst hw'; go_simp; first | done | with_reducible rfl | (intro hq; omega))
          simp only [Act.put, List.getElem_toArray, List.getElem_cons_zero, List.getElem_cons_succ, List.setIfInBounds_toArray, List.set_cons_zero, List.set_cons_succ]
          refine wpAnyH_take (i := 1) (v := ?v1q) rfl (by kernel_rfl) (by kernel_rfl) (by kernel_rfl) (fun _ _ _ h => quiet_panic h) (Or.inl ⟨by rfl, ?y1q⟩) (rfl) ?_
          case y1q => (intro w' hw'; subst hw'; go_simp; first | done | with_reducible rfl | (intro hq; omega))
          simp only [Act.put, List.getElem_toArray, List.getElem_cons_zero, List.getElem_cons_succ, List.setIfInBounds_toArray, List.set_cons_zero, List.set_cons_succ]
          refine wpAnyH_take (i := 2) (v := ?v2q) rfl (by kernel_rfl) (by kernel_rfl) (by kernel_rfl) (fun _ _ _ h => quiet_panic h) (Or.inl ⟨by rfl, ?y2q⟩) (rfl) ?_
          case y2q => (intro w' hw'; subst hw'; go_simp; first | done | with_reducible rfl | (intro hq; omega))
          simp only [Act.put, List.getElem_toArray, List.getElem_cons_zero, List.getElem_cons_succ, List.setIfInBounds_toArray, List.set_cons_zero, List.set_cons_succ]
          refine wpAnyH_take (i := 3) (v := (.agg #[.int .i64 c.k, .int .i64 c.n, .string c.s])) rfl (by kernel_rfl) (by kernel_rfl) (by kernel_rfl) (fun _ _ _ h => quiet_panic h) (Or.inl ⟨by rfl, ?y3q⟩) (rfl) ?_
          case y3q => (intro w' hw'; subst hw'; go_simp; first | done | with_reducible rfl | (intro hq; omega))
          simp only [Act.put, List.getElem_toArray, List.getElem_cons_zero, List.getElem_cons_succ, List.setIfInBounds_toArray, List.set_cons_zero, List.set_cons_succ]
          refine wpAnyH_take (i := 4) (v := (.pointer (some ⟨py, 0, none⟩))) rfl (by kernel_rfl) (by kernel_rfl) (by kernel_rfl) (fun _ _ _ h => quiet_panic h) (Or.inl ⟨by rfl, ?y4q⟩) (rfl) ?_
          case y4q => (intro w' hw'; subst hw'; go_simp; first | done | with_reducible rfl | (intro hq; omega))
          simp only [Act.put, List.getElem_toArray, List.getElem_cons_zero, List.getElem_cons_succ, List.setIfInBounds_toArray, List.set_cons_zero, List.set_cons_succ]
          refine wpAnyH_take (i := 5) (v := ?v5q) rfl (by kernel_rfl) (by kernel_rfl) (by kernel_rfl) (fun _ _ _ h => quiet_panic h) (Or.inl ⟨by rfl, ?y5q⟩) (rfl) ?_
          case y5q => (intro w' hw'; subst hw'; go_simp; first | done | with_reducible rfl | (intro hq; omega))
          simp only [Act.put, List.getElem_toArray, List.getElem_cons_zero, List.getElem_cons_succ, List.setIfInBounds_toArray, List.set_cons_zero, List.set_cons_succ]
          refine wpAnyH_take (i := 6) (v := ?v6q) rfl (by kernel_rfl) (by kernel_rfl) (by kernel_rfl) (fun _ _ _ h => quiet_panic h) (Or.inl ⟨by rfl, ?y6q⟩) (rfl) ?_
          case y6q => (intro w' hw'; subst hw'; go_simp; first | done | with_reducible rfl | (intro hq; omega))
          simp only [Act.put, List.getElem_toArray, List.getElem_cons_zero, List.getElem_cons_succ, List.setIfInBounds_toArray, List.set_cons_zero, List.set_cons_succ]
          refine wpAnyH_take (i := 7) (v := (.agg #[.int .i64 c.k, .int .i64 c.n, .string c.s])) rfl (by kernel_rfl) (by kernel_rfl) (by kernel_rfl) (fun _ _ _ h => quiet_panic h) (Or.inl ⟨by rfl, ?y7q⟩) (rfl) ?_
          case y7q => (intro w' hw'; subst hw'; go_simp; first | done | with_reducible rfl | (intro hq; omega))
          simp only [Act.put, List.getElem_toArray, List.getElem_cons_zero, List.getElem_cons_succ, List.setIfInBounds_toArray, List.set_cons_zero, List.set_cons_succ]
          refine wpAnyH_take (i := 8) (v := (.bool true)) rfl (by kernel_rfl) (by kernel_rfl) (by kernel_rfl) (fun _ _ _ h => quiet_panic h) (Or.inl ⟨by rfl, ?y8q⟩) (rfl) ?_
          case y8q => (intro w' hw'; subst hw'; go_simp; first | done | with_reducible rfl | (intro hq; omega))
          simp only [Act.put, List.getElem_toArray, List.getElem_cons_zero, List.getElem_cons_succ, List.setIfInBounds_toArray, List.set_cons_zero, List.set_cons_succ]
          refine wpAnyH_take (i := 9) (v := (.bool true)) rfl (by kernel_rfl) (by kernel_rfl) (by kernel_rfl) (fun _ _ _ h => quiet_panic h) (Or.inl ⟨by rfl, ?y9q⟩) (rfl) ?_
          case y9q => (intro w' hw'; subst hw'; go_simp; first | done | with_reducible rfl | (intro hq; omega))
          simp only [Act.put, List.getElem_toArray, List.getElem_cons_zero, List.getElem_cons_succ, List.setIfInBounds_toArray, List.set_cons_zero, List.set_cons_succ]
          refine wpAnyH_done (by kernel_rfl) ?_ _
          refine ⟨rfl, ?_⟩
          gi_wp2
          refine ⟨trivial, ?_⟩
          refine (backward_in Fence.wide _ trivial rfl ka ks1.length kc W4.drew).mono ?_
          rintro e w5 ⟨rfl, rfl⟩
          gi_wp2
          refine wpIn_rangeFunc_ownG rfl (by omega) (gf := 108) (lb := #[.pointer (some ⟨W4.heap.size, 0, none⟩)]) rfl trivial (enters_of Try.func108 (by kernel_rfl) rfl)
            (backward_stops (fun y : {y : (Nat × List C) × Nat // YQ S w la ks2.length f y} => y.1.2) (fun y => y.1.1.1) Fence.wide rfl _ trivial rfl w.heap.size W4.heap.size xz _ (by simp) (by simp; omega) ka kc (by rw [hxl]; unfold maxLen; omega) (by rw [hxl]; exact bK.cell) hix ?cells) kbtK_t (kbtK_b (by simp; omega) (by simp)) (Below.refl _ _) (fun _ => rfl)
            (fun pre W => (((∃ v, Boxed W (w.heap.size + 1) 136 v ∧ W.ownsRow w.heap.size 135 2 v (r.length + pre.length) (stkQ r.reverse ++ stkQ (pre.map (fun y => f y.1))) ∧ True) ∧ Boxed W W4.heap.size 93 (.slice ka ks1.length kc)) ∧ Boxed W wr.heap.size 69 (.pointer (some ⟨py, 0, none⟩))) ∧ (Below lo w W ∧ (Kp4 w.heap.size (w.heap.size + 1) W4 W ∧ ∀ y ∈ pre, True)))
            (fun _ _ _ => False)
            (OwnFrom.and (OwnFrom.and (OwnFrom.and (Own.from (holdsRow_own w.heap.size (w.heap.size + 1) 136 135 2 (fun pre : List {y : (Nat × List C) × Nat // YQ S w la ks2.length f y} => r.length + pre.length) (fun pre => stkQ r.reverse ++ stkQ (pre.map (fun y => f y.1))) (fun pre v => True)) _) (Own.from (boxed_own W4.heap.size 93 (fun _ => .slice ka ks1.length kc)) _)) (Own.from (boxed_own wr.heap.size 69 (fun _ => .pointer (some ⟨py, 0, none⟩))) _)) (OwnFrom.and (ownFrom_below hlo (by simp; omega)) (OwnFrom.and (kp4_ownFrom (by simp)) ownFrom_const)))
            (fun _ _ _ _ _ hs _ _ => hs)
            ⟨⟨⟨⟨_, hbx4.alloc _, by simpa [stkQ] using World.ownsRow.drew (World.ownsRow.alloc hrow4 (.cells #[.slice ka ks1.length kc] 93)), trivial⟩, bK⟩, hby4.alloc _⟩, (hM4.below.alloc (by omega) _).drew, hk40, by simp⟩
            ?a1 ?assign ?body ?dn ?stp
          case cells =>
            rcases unhide HKC with h | ⟨q, e, hq, hcc⟩
            · exact .inl h
            · right
              refine ⟨q, e, hSl q hq, fun j h => ?_⟩
              exact (World.cell?_of_block (a := ⟨q, _, none⟩) ((Below.heap_alloc W4 _ q (by have := hSl q hq; omega)).trans (hM4.sk q hq))).trans (hcc j h)
          case assign =>
            intro l y W K hK
            gi_wp2
            exact hK
          case body =>
            rintro l pre y W ⟨⟨⟨⟨v, hv, hrow, _⟩, hbK⟩, hbY⟩, hBW, hK4, _⟩ hlt
            obtain ⟨⟨⟨yp, yt⟩, yi⟩, q2, rfl, hSq, hyi, hyc⟩ := y
            dsimp only at hyi hyc
            have hlt' : pre.length < 3 := by omega
            have hM5 := hM4.kp4 hK4 hbx4 hSl hBW
            have hcW : W.cell? ⟨q2, yi, none⟩ = some (.pointer (some ⟨(f ((yp, yt), yi)).2.1, 0, none⟩)) := (World.cell?_of_block (a := ⟨q2, yi, none⟩) (hM5.2.1 q2 hSq)).trans hyc
            have hnW : Node W py c (.slice (some ⟨q2, 0, none⟩) ks2.length lc) := (hM5.2.1 py hSy).trans ((hM4.sk py hSy).symm.trans hnY4)
            have n3 := hnW.cell
            have cv := hv.cell
            have cY := hbY.cell
            have hmx : Try.prog.follows .mixedOrders = true := by kernel_rfl
            obtain ⟨yb, hyb⟩ : ∃ yb, yb = (f ((yp, yt), yi)).2.1 := ⟨_, rfl⟩
            rw [← hyb] at hcW
            have HYB := hide hyb
            clear hyb
            obtain ⟨i0, hi, hz0, hz1, hz2⟩ := info_parts (show (Try.prog.info? 135).map (fun i => (i.zero, i.size, i.bytes)) = some (some (.agg #[.pointer none, .pointer none]), 2, 16) by kernel_rfl)
            obtain ⟨g2, cap2, w6, hr2, hown2, hgrow2, hat2, hgl2⟩ := run_append_lies (P := Try.prog) (W.drew.alloc (.cells #[.pointer (some ⟨yp, 0, none⟩), .pointer (some ⟨yb, 0, none⟩)] 135)) 136 136 w.heap.size 135 i0 _ 2 16 Try.underlying136 hi hz0 hz1 hz2 rfl (by decide) v (r.length + pre.length) _ (World.ownsRow.alloc (World.ownsRow.drew hrow) _) ⟨W.heap.size, 0, none⟩ 1 1 [.pointer (some ⟨yp, 0, none⟩), .pointer (some ⟨yb, 0, none⟩)] rfl (two_cells W.drew _ _ _ _ rfl) (by simp [Value.oneCell']) (by omega) (by unfold maxLen; omega) (by omega) (by have := hBW.size; show w.heap.size ≤ (W.alloc _).heap.size; simp; omega) _ rfl
            have hr' : Sem.run Try.prog (Builtin.append_ #[136, 136] 136 #[v, .slice (some ⟨W.heap.size, 0, none⟩) 1 1]) (W.alloc (.cells #[.pointer (some ⟨yp, 0, none⟩), .pointer (some ⟨yb, 0, none⟩)] 135)).drew = .ok (.slice (some ⟨g2, 0, none⟩) (r.length + pre.length + 1) cap2) w6 := hr2
            clear hr2
            obtain ⟨hv1, hv2, hrr2, hk2, hbb2⟩ := Boxed.appended (W := W.drew) (show Boxed W.drew _ _ v from hv) (by decide) (World.ownsRow.drew hrow) (show w.heap.size ≤ W.heap.size from hBW.size) (by omega) hown2 hgrow2
            have hc1 := hv1.cell
            have hf1 := hv1.frozen
            have hlt0 := hv.lt
            have hcA : (W.alloc (.cells #[.pointer (some ⟨yp, 0, none⟩), .pointer (some ⟨yb, 0, none⟩)] 135)).cell? ⟨w.heap.size + 1, 0, none⟩ = some v := (hv.alloc _).cell
            have hbK2 : Boxed (w6.setCell ⟨w.heap.size + 1, 0, none⟩ (.slice (some ⟨g2, 0, none⟩) (r.length + pre.length + 1) cap2)) W4.heap.size 93 (.slice ka ks1.length kc) := (((show Boxed W.drew _ _ _ from hbK).alloc _).kept hgrow2 ((show Boxed W.drew _ _ _ from hbK).not_row (by decide) (World.ownsRow.drew hrow))).other (by omega) _
            have hbY2 : Boxed (w6.setCell ⟨w.heap.size + 1, 0, none⟩ (.slice (some ⟨g2, 0, none⟩) (r.length + pre.length + 1) cap2)) wr.heap.size 69 (.pointer (some ⟨py, 0, none⟩)) := (((show Boxed W.drew _ _ _ from hbY).alloc _).kept hgrow2 ((show Boxed W.drew _ _ _ from hbY).not_row (by decide) (World.ownsRow.drew hrow))).other (by omega) _
            have hK42 : Kp4 w.heap.size (w.heap.size + 1) W4 (w6.setCell ⟨w.heap.size + 1, 0, none⟩ (.slice (some ⟨g2, 0, none⟩) (r.length + pre.length + 1) cap2)) := Kp4.step (W := W.drew) hK4 (World.ownsRow.drew hrow) (Nat.le_refl _) hgrow2
            have hbl2 : Below w.heap.size W (w6.setCell ⟨w.heap.size + 1, 0, none⟩ (.slice (some ⟨g2, 0, none⟩) (r.length + pre.length + 1) cap2)) := ((Below.refl _ W).drew).trans hbb2
            have hrow9 : (w6.setCell ⟨w.heap.size + 1, 0, none⟩ (.slice (some ⟨g2, 0, none⟩) (r.length + pre.length + 1) cap2)).ownsRow w.heap.size 135 2 (.slice (some ⟨g2, 0, none⟩) (r.length + pre.length + 1) cap2) (r.length + pre.length + 1) (stkQ r.reverse ++ stkQ (pre.map (fun y => f y.1)) ++ stkQ [f ((yp, yt), yi)]) := by
              rw [stkQ_one, unhide HF1, ← unhide HYB]
              exact hrr2
            have HFIN := hide (show KeepsFrom (W4.alloc (.cells #[.slice ka ks1.length kc] 93)).drew.heap.size W (w6.setCell ⟨w.heap.size + 1, 0, none⟩ (.slice (some ⟨g2, 0, none⟩) (r.length + pre.length + 1) cap2)) ∧ KBt w.heap.size W4.heap.size W (w6.setCell ⟨w.heap.size + 1, 0, none⟩ (.slice (some ⟨g2, 0, none⟩) (r.length + pre.length + 1) cap2)) ∧
                ((((∃ v, Boxed (w6.setCell ⟨w.heap.size + 1, 0, none⟩ (.slice (some ⟨g2, 0, none⟩) (r.length + pre.length + 1) cap2)) (w.heap.size + 1) 136 v ∧ (w6.setCell ⟨w.heap.size + 1, 0, none⟩ (.slice (some ⟨g2, 0, none⟩) (r.length + pre.length + 1) cap2)).ownsRow w.heap.size 135 2 v (r.length + (pre.length + 1)) (stkQ r.reverse ++ (stkQ (pre.map (fun y => f y.1)) ++ stkQ [f ((yp, yt), yi)])) ∧ True) ∧ Boxed (w6.setCell ⟨w.heap.size + 1, 0, none⟩ (.slice (some ⟨g2, 0, none⟩) (r.length + pre.length + 1) cap2)) W4.heap.size 93 (.slice ka ks1.length kc)) ∧ Boxed (w6.setCell ⟨w.heap.size + 1, 0, none⟩ (.slice (some ⟨g2, 0, none⟩) (r.length + pre.length + 1) cap2)) wr.heap.size 69 (.pointer (some ⟨py, 0, none⟩))) ∧ (Below lo w (w6.setCell ⟨w.heap.size + 1, 0, none⟩ (.slice (some ⟨g2, 0, none⟩) (r.length + pre.length + 1) cap2)) ∧ Kp4 w.heap.size (w.heap.size + 1) W4 (w6.setCell ⟨w.heap.size + 1, 0, none⟩ (.slice (some ⟨g2, 0, none⟩) (r.length + pre.length + 1) cap2)))) from
              ⟨((KeepsOthers.drew W).trans hk2).from _, ⟨KpS.of_below hbl2, fun u hu => by rw [hbK.cell] at hu; cases hu; exact hbK2.cell⟩, ⟨⟨⟨_, hv2, by rw [← Nat.add_assoc, ← List.append_assoc]; exact hrow9, trivial⟩, hbK2⟩, hbY2⟩, hBW.trans (hbl2.mono hlo), hK42⟩)
            have hSqW : q2 < W.heap.size := by have := hSl q2 hSq; have := hBW.size; omega
            have hSpW : py < W.heap.size := by have := hSl py hSy; have := hBW.size; omega
            have hbAl := cell_below W (.cells #[.pointer (some ⟨yp, 0, none⟩), .pointer (some ⟨yb, 0, none⟩)] 135)
            have cYA := (hbAl.cell (p := ⟨wr.heap.size, 0, none⟩) hbY.lt).trans cY
            have n3A := (hbAl.cell (p := ⟨py, 3, none⟩) hSpW).trans n3
            have hcWA := (hbAl.cell (p := ⟨q2, yi, none⟩) hSqW).trans hcW
            have hb66 := below_grown (World.ownsRow.drew hrow) (show w.heap.size ≤ W.drew.heap.size from hBW.size) _ hgrow2
            have cY6 := (((show Boxed W.drew _ _ _ from hbY).alloc _).kept hgrow2 ((show Boxed W.drew _ _ _ from hbY).not_row (by decide) (World.ownsRow.drew hrow))).cell
            have n36 : w6.cell? ⟨py, 3, none⟩ = _ := (hb66.cell (p := ⟨py, 3, none⟩) (hSl py hSy)).trans n3
            have hcW6 : w6.cell? ⟨q2, yi, none⟩ = _ := (hb66.cell (p := ⟨q2, yi, none⟩) (hSl q2 hSq)).trans hcW
            have cYF := hbY2.cell
            have n3F := (hbl2.cell (p := ⟨py, 3, none⟩) (hSl py hSy)).trans n3
            have hcWF := (hbl2.cell (p := ⟨q2, yi, none⟩) (hSl q2 hSq)).trans hcW
            clear hbAl hb66 hbK2 hbY2 hK42 hbl2 hrow9 hrr2 hk2 hbb2 hown2 hgrow2 hM5 hK4 hBW hrow hnW hat2
            gi_wp2
            refine region_in (fun w' => w'.cell? ⟨wr.heap.size, 0, none⟩ = some (.pointer (some ⟨py, 0, none⟩)) ∧ w'.cell? ⟨py, 3, none⟩ = some (.slice (some ⟨q2, 0, none⟩) ks2.length lc) ∧ w'.cell? ⟨q2, yi, none⟩ = some (.pointer (some ⟨yb, 0, none⟩))) (by kernel_rfl) (by intro o ho c; simp at ho; rcases ho with (rfl | ho) <;> first | (simp; done) | (revert ho; intro ho; repeat' (rcases ho with (rfl | ho))) <;> simp_all) ?_
            refine wpAnyH_take (i := 1) (v := ?v1e) rfl (by kernel_rfl) (by kernel_rfl) (by kernel_rfl) (fun _ _ _ h => quiet_panic h) (Or.inl ⟨by rfl, ?y1e⟩) (⟨cY, n3, hcW⟩) ?_
            case y1e => (intro w' hw'; obtain ⟨k1, k2, k3⟩ := hw'; go_simp; first | done | with_reducible rfl | (intro hq; omega))
            simp only [Act.put, List.getElem_toArray, List.getElem_cons_zero, List.getElem_cons_succ, List.setIfInBounds_toArray, List.set_cons_zero, List.set_cons_succ]
            refine wpAnyH_take (i := 2) (v := (.pointer (some ⟨py, 0, none⟩))) rfl (by kernel_rfl) (by kernel_rfl) (by kernel_rfl) (fun _ _ _ h => quiet_panic h) (Or.inl ⟨by rfl, ?y2e⟩) (⟨cY, n3, hcW⟩) ?_
            case y2e => (intro w' hw'; obtain ⟨k1, k2, k3⟩ := hw'; go_simp; first | done | with_reducible rfl | (intro hq; omega))
            simp only [Act.put, List.getElem_toArray, List.getElem_cons_zero, List.getElem_cons_succ, List.setIfInBounds_toArray, List.set_cons_zero, List.set_cons_succ]
            refine wpAnyH_take (i := 3) (v := ?v3e) rfl (by kernel_rfl) (by kernel_rfl) (by kernel_rfl) (fun _ _ _ h => quiet_panic h) (Or.inl ⟨by rfl, ?y3e⟩) (⟨cY, n3, hcW⟩) ?_
            case y3e => (intro w' hw'; obtain ⟨k1, k2, k3⟩ := hw'; go_simp; first | done | with_reducible rfl | (intro hq; omega))
            simp only [Act.put, List.getElem_toArray, List.getElem_cons_zero, List.getElem_cons_succ, List.setIfInBounds_toArray, List.set_cons_zero, List.set_cons_succ]
            refine wpAnyH_take (i := 4) (v := (.pointer (some ⟨py, 3, none⟩))) rfl (by kernel_rfl) (by kernel_rfl) (by kernel_rfl) (fun _ _ _ h => quiet_panic h) (Or.inl ⟨by rfl, ?y4e⟩) (⟨cY, n3, hcW⟩) ?_
            case y4e => (intro w' hw'; obtain ⟨k1, k2, k3⟩ := hw'; go_simp; first | done | with_reducible rfl | (intro hq; omega))
            simp only [Act.put, List.getElem_toArray, List.getElem_cons_zero, List.getElem_cons_succ, List.setIfInBounds_toArray, List.set_cons_zero, List.set_cons_succ]
            refine wpAnyH_take (i := 5) (v := (.slice (some ⟨q2, 0, none⟩) ks2.length lc)) rfl (by kernel_rfl) (by kernel_rfl) (by kernel_rfl) (fun _ _ _ h => quiet_panic h) (Or.inl ⟨by rfl, ?y5e⟩) (⟨cY, n3, hcW⟩) ?_
            case y5e => (intro w' hw'; obtain ⟨k1, k2, k3⟩ := hw'; go_simp; first | done | with_reducible rfl | (intro hq; omega))
            simp only [Act.put, List.getElem_toArray, List.getElem_cons_zero, List.getElem_cons_succ, List.setIfInBounds_toArray, List.set_cons_zero, List.set_cons_succ]
            refine wpAnyH_take (i := 6) (v := (.int .i64 (yi : Int))) rfl (by kernel_rfl) (by kernel_rfl) (by kernel_rfl) (fun _ _ _ h => quiet_panic h) (Or.inl ⟨by rfl, ?y6e⟩) (⟨cY, n3, hcW⟩) ?_
            case y6e => (intro w' hw'; obtain ⟨k1, k2, k3⟩ := hw'; go_simp; first | done | with_reducible rfl | (intro hq; omega))
            simp only [Act.put, List.getElem_toArray, List.getElem_cons_zero, List.getElem_cons_succ, List.setIfInBounds_toArray, List.set_cons_zero, List.set_cons_succ]
            refine wpAnyH_take (i := 7) (v := (.pointer (some ⟨q2, yi, none⟩))) rfl (by kernel_rfl) (by kernel_rfl) (by kernel_rfl) (fun _ _ _ h => quiet_panic h) (Or.inl ⟨by rfl, ?y7e⟩) (⟨cY, n3, hcW⟩) ?_
            case y7e => (intro w' hw'; obtain ⟨k1, k2, k3⟩ := hw'; go_simp; first | done | with_reducible rfl | (intro hq; omega))
            simp only [Act.put, List.getElem_toArray, List.getElem_cons_zero, List.getElem_cons_succ, List.setIfInBounds_toArray, List.set_cons_zero, List.set_cons_succ]
            refine wpAnyH_take (i := 8) (v := (.pointer (some ⟨yb, 0, none⟩))) rfl (by kernel_rfl) (by kernel_rfl) (by kernel_rfl) (fun _ _ _ h => quiet_panic h) (Or.inl ⟨by rfl, ?y8e⟩) (⟨cY, n3, hcW⟩) ?_
            case y8e => (intro w' hw'; obtain ⟨k1, k2, k3⟩ := hw'; go_simp; first | done | with_reducible rfl | (intro hq; omega))
            simp only [Act.put, List.getElem_toArray, List.getElem_cons_zero, List.getElem_cons_succ, List.setIfInBounds_toArray, List.set_cons_zero, List.set_cons_succ]
            refine wpAnyH_take (i := 9) (v := (.agg #[.pointer (some ⟨yp, 0, none⟩), .pointer (some ⟨yb, 0, none⟩)])) rfl (by kernel_rfl) (by kernel_rfl) (by kernel_rfl) (fun _ _ _ h => quiet_panic h) (Or.inl ⟨by rfl, ?y9e⟩) (⟨cY, n3, hcW⟩) ?_
            case y9e => (intro w' hw'; obtain ⟨k1, k2, k3⟩ := hw'; go_simp; first | done | with_reducible rfl | (intro hq; omega))
            simp only [Act.put, List.getElem_toArray, List.getElem_cons_zero, List.getElem_cons_succ, List.setIfInBounds_toArray, List.set_cons_zero, List.set_cons_succ]
            refine wpAnyH_ready (rs := [0, 10]) (by kernel_rfl) (by simp) ?_
            refine AllReadyH.cons rfl (fun K hK => ?_) (AllReadyH.cons rfl (fun K hK => ?_) AllReadyH.nil)
            · go_simp
              refine Shut.out hK _ _ (⟨cY, n3, hcW⟩) (fun _ => ?_)
              clear hK K
              try (simp only [Act.put, List.getElem_toArray, List.getElem_cons_zero, List.getElem_cons_succ, List.setIfInBounds_toArray, List.set_cons_zero, List.set_cons_succ])
              refine wpAnyH_ready (rs := [10]) (by kernel_rfl) (by simp) ?_
              refine AllReadyH.cons rfl (fun K hK => ?_) AllReadyH.nil
              go_simp
              refine Shut.out hK _ _ (⟨cYA, n3A, hcWA⟩) (fun _ => ?_)
              clear hK K
              try (simp only [Act.put, List.getElem_toArray, List.getElem_cons_zero, List.getElem_cons_succ, List.setIfInBounds_toArray, List.set_cons_zero, List.set_cons_succ])
              refine wpAnyH_ready (rs := [11]) (by kernel_rfl) (by simp) ?_
              refine AllReadyH.cons rfl (fun K hK => ?_) AllReadyH.nil
              go_simp
              refine Shut.out hK _ _ (⟨cY6, n36, hcW6⟩) (fun _ => ?_)
              clear hK K
              try (simp only [Act.put, List.getElem_toArray, List.getElem_cons_zero, List.getElem_cons_succ, List.setIfInBounds_toArray, List.set_cons_zero, List.set_cons_succ])
              refine wpAnyH_ready (rs := [12]) (by kernel_rfl) (by simp) ?_
              refine AllReadyH.cons rfl (fun K hK => ?_) AllReadyH.nil
              go_simp
              refine Shut.out hK _ _ (⟨cYF, n3F, hcWF⟩) (fun _ => ?_)
              clear hK K
              try (simp only [Act.put, List.getElem_toArray, List.getElem_cons_zero, List.getElem_cons_succ, List.setIfInBounds_toArray, List.set_cons_zero, List.set_cons_succ])
              refine wpAnyH_done (by kernel_rfl) ?_ _
              refine ⟨rfl, ?_⟩
              gi_wp2
              obtain ⟨r1, r2, ⟨⟨⟨v9, r3, r4, _⟩, r5⟩, r6⟩, r7, r8⟩ := unhide HFIN
              refine And.intro ?_ (And.intro r2 (And.intro (And.intro (And.intro ⟨v9, r3, ?_, trivial⟩ r5) r6) (And.intro r7 (And.intro r8 (fun _ _ => trivial)))))
              · first | exact r1 | simpa using r1
              · rw [List.length_append, List.map_append, stkQ_append]; exact r4
            · go_simp
              refine Shut.out hK _ _ (⟨cYA, n3A, hcWA⟩) (fun _ => ?_)
              clear hK K
              try (simp only [Act.put, List.getElem_toArray, List.getElem_cons_zero, List.getElem_cons_succ, List.setIfInBounds_toArray, List.set_cons_zero, List.set_cons_succ])
              refine wpAnyH_ready (rs := [0]) (by kernel_rfl) (by simp) ?_
              refine AllReadyH.cons rfl (fun K hK => ?_) AllReadyH.nil
              go_simp
              refine Shut.out hK _ _ (⟨cYA, n3A, hcWA⟩) (fun _ => ?_)
              clear hK K
              try (simp only [Act.put, List.getElem_toArray, List.getElem_cons_zero, List.getElem_cons_succ, List.setIfInBounds_toArray, List.set_cons_zero, List.set_cons_succ])
              refine wpAnyH_ready (rs := [11]) (by kernel_rfl) (by simp) ?_
              refine AllReadyH.cons rfl (fun K hK => ?_) AllReadyH.nil
              go_simp
              refine Shut.out hK _ _ (⟨cY6, n36, hcW6⟩) (fun _ => ?_)
              clear hK K
              try (simp only [Act.put, List.getElem_toArray, List.getElem_cons_zero, List.getElem_cons_succ, List.setIfInBounds_toArray, List.set_cons_zero, List.set_cons_succ])
              refine wpAnyH_ready (rs := [12]) (by kernel_rfl) (by simp) ?_
              refine AllReadyH.cons rfl (fun K hK => ?_) AllReadyH.nil
              go_simp
              refine Shut.out hK _ _ (⟨cYF, n3F, hcWF⟩) (fun _ => ?_)
              clear hK K
              try (simp only [Act.put, List.getElem_toArray, List.getElem_cons_zero, List.getElem_cons_succ, List.setIfInBounds_toArray, List.set_cons_zero, List.set_cons_succ])
              refine wpAnyH_done (by kernel_rfl) ?_ _
              refine ⟨rfl, ?_⟩
              gi_wp2
              obtain ⟨r1, r2, ⟨⟨⟨v9, r3, r4, _⟩, r5⟩, r6⟩, r7, r8⟩ := unhide HFIN
              refine And.intro ?_ (And.intro r2 (And.intro (And.intro (And.intro ⟨v9, r3, ?_, trivial⟩ r5) r6) (And.intro r7 (And.intro r8 (fun _ _ => trivial)))))
              · first | exact r1 | simpa using r1
              · rw [List.length_append, List.map_append, stkQ_append]; exact r4
          case dn =>
            rintro D' ys W hD rfl ⟨⟨⟨⟨v, hv, hrow, _⟩, _⟩, _⟩, hBW, hK4, _⟩ hK
            have hDl : D' < W.heap.size := (Array.getElem?_eq_some_iff.1 hK).1
            change (W4.alloc (.cells #[.slice ka ks1.length kc] 93)).heap.size ≤ D' at hD
            simp only [World.size_alloc] at hD
            have hM5 := hM4.kp4 hK4 hbx4 hSl hBW
            have HREL : Hid (MsAt lo S res sf w P n' ({ target := .collected D', args := #[] } :: ds) W) := by
              refine ⟨s, ks1.zip ks2 ++ r, v, unhide HU2, unhide HR2, hM5.1, hv, ?_, ?_, hM5.2.1, hBW, hM5.2.2.push (by omega) (by show W4.heap.size ≤ D'; have : W4.drew.heap.size = W4.heap.size := rfl; omega) hDl hK⟩
              · rw [unhide HXF, hxl] at hrow
                rw [List.reverse_append, stkQ_append, List.length_append, List.length_zip, ← unhide HLL, Nat.min_self, Nat.add_comm]
                exact hrow
              · intro z hz
                rcases List.mem_append.1 hz with hz | hz
                · exact unhide HT3 z hz
                · exact unhide HPS z (by simp [hz])
            clear hM5 hK4 hBW hv hrow
            gi_wp2
            refine Handed.intro n' ?measure ?_
            rotate_left
            first | gi_step | go_step
            refine frame_intro (by rfl) ?rel
            case rel => exact unhide HREL
            case measure => omega
          case stp =>
            rintro D' c pre W _ _ h _
            exact h.elim
        | false =>
          rw [hsm] at heq
          have hcd : c ≠ d := fun e => by rw [e, same_self] at hsm; cases hsm
          clear hsm
          by_cases hck : c.k = 1
          · have hckb : (c.k == 1) = true := by simpa using hck
            obtain ⟨hX0, hUU⟩ := uni_var_left (unhide HU1) (unhide HNX) (unhide HNY) hck hcd
            have hgn : getB s c.n = [] := by
              obtain ⟨c', r', e1, h⟩ := (unhide HNX).head
              simp only [List.cons.injEq] at e1
              obtain ⟨rfl, _⟩ := e1
              exact h hck
            have hcr := okC_var ((unhide HX).2 c (by simp)) hck
            have hRm := unhide HR1
            have HBD := hide (implBind_any lo P py S s ⟨c.n, d :: (ks2.map (fun z : Nat × List C => z.2)).flatten⟩ W4.drew.drew (by omega) hM4.drew.drew.bnd (by show lo ≤ W4.heap.size; omega) (fun hm => (hRm.ok.bound.2 hm) hgn) (show (Lit.int .i64 c.n).wf = true from WalkArith.wf_i64 (by omega)) (TreeAt.kept (W' := W4.drew.drew) hTY (fun _ h => h) (fun b hb => hM4.sk b hb)) (unhide HY).2 (unhide HLY) (unhide HOKT))
            have HYES : Hid (∀ w2 : World, ¬ Reach s (d :: (ks2.map (·.2)).flatten) c.n → Bnd lo w2 P S (s ++ [⟨c.n, d :: (ks2.map (·.2)).flatten⟩]) → Below lo W4.drew.drew w2 → (∀ b, S b → w2.heap[b]? = W4.drew.drew.heap[b]?) → Keep3 W4.drew.drew w2 → ∃ n', k = n' + 1 ∧ MsAt lo S res sf w P n' ds w2) := fun w2 hnr h3 h4 h5 h6 => by
              obtain ⟨n', e, hU'⟩ := (hUU.resolve_right (fun h => hnr h.1)).2
              exact ⟨n', e, unhide HNEXT _ _ n' w2 hU' (hRm.bind hgn hcr (unhide HY) (unhide HLY) hnr (hU'.ok (hRm.ok.bind hgn (unhide HY) hnr) (fun q hq => hRm.prs q (by simp; exact .inr (by simpa using hq)))).2.1) h3 (((Below.refl lo W4).drew.drew).trans h4) h5 h6⟩
            have HNO : Hid (Reach s (d :: (ks2.map (·.2)).flatten) c.n → res = none) := fun h => (hUU.resolve_left (fun h' => h'.1 h)).2
            clear hUU hgn hRm hck hcd
            gi_wp2
            refine region_wide (fun w' => w' = W4.drew) (by kernel_rfl) (by intro o ho c; simp at ho; rcases ho with (rfl | ho) <;> first | (simp; done) | (revert ho; intro ho; repeat' (rcases ho with (rfl | ho))) <;> simp_all) ?_
            refine wpAnyH_take (i := 0) (v := ?v0q) rfl (by kernel_rfl) (by kernel_rfl) (by kernel_rfl) (fun _ _ _ h => quiet_panic h) (Or.inl ⟨by rfl, ?y0q⟩) (rfl) ?_
            case y0q => (intro w' hw'; subst hw'; go_simp; first | done | with_reducible rfl | (intro hq; omega))
            simp only [Act.put, List.getElem_toArray, List.getElem_cons_zero, List.getElem_cons_succ, List.setIfInBounds_toArray, List.set_cons_zero, List.set_cons_succ]
            refine wpAnyH_take (i := 1) (v := ?v1q) rfl (by kernel_rfl) (by kernel_rfl) (by kernel_rfl) (fun _ _ _ h => quiet_panic h) (Or.inl ⟨by rfl, ?y1q⟩) (rfl) ?_
            case y1q => (intro w' hw'; subst hw'; go_simp; first | done | with_reducible rfl | (intro hq; omega))
            simp only [Act.put, List.getElem_toArray, List.getElem_cons_zero, List.getElem_cons_succ, List.setIfInBounds_toArray, List.set_cons_zero, List.set_cons_succ]
            refine wpAnyH_take (i := 2) (v := ?v2q) rfl (by kernel_rfl) (by kernel_rfl) (by kernel_rfl) (fun _ _ _ h => quiet_panic h) (Or.inl ⟨by rfl, ?y2q⟩) (rfl) ?_
            case y2q => (intro w' hw'; subst hw'; go_simp; first | done | with_reducible rfl | (intro hq; omega))
            simp only [Act.put, List.getElem_toArray, List.getElem_cons_zero, List.getElem_cons_succ, List.setIfInBounds_toArray, List.set_cons_zero, List.set_cons_succ]
            refine wpAnyH_take (i := 3) (v := (.agg #[.int .i64 c.k, .int .i64 c.n, .string c.s])) rfl (by kernel_rfl) (by kernel_rfl) (by kernel_rfl) (fun _ _ _ h => quiet_panic h) (Or.inl ⟨by rfl, ?y3q⟩) (rfl) ?_
            case y3q => (intro w' hw'; subst hw'; go_simp; first | done | with_reducible rfl | (intro hq; omega))
            simp only [Act.put, List.getElem_toArray, List.getElem_cons_zero, List.getElem_cons_succ, List.setIfInBounds_toArray, List.set_cons_zero, List.set_cons_succ]
            refine wpAnyH_take (i := 4) (v := (.pointer (some ⟨py, 0, none⟩))) rfl (by kernel_rfl) (by kernel_rfl) (by kernel_rfl) (fun _ _ _ h => quiet_panic h) (Or.inl ⟨by rfl, ?y4q⟩) (rfl) ?_
            case y4q => (intro w' hw'; subst hw'; go_simp; first | done | with_reducible rfl | (intro hq; omega))
            simp only [Act.put, List.getElem_toArray, List.getElem_cons_zero, List.getElem_cons_succ, List.setIfInBounds_toArray, List.set_cons_zero, List.set_cons_succ]
            refine wpAnyH_take (i := 5) (v := ?v5q) rfl (by kernel_rfl) (by kernel_rfl) (by kernel_rfl) (fun _ _ _ h => quiet_panic h) (Or.inl ⟨by rfl, ?y5q⟩) (rfl) ?_
            case y5q => (intro w' hw'; subst hw'; go_simp; first | done | with_reducible rfl | (intro hq; omega))
            simp only [Act.put, List.getElem_toArray, List.getElem_cons_zero, List.getElem_cons_succ, List.setIfInBounds_toArray, List.set_cons_zero, List.set_cons_succ]
            refine wpAnyH_take (i := 6) (v := ?v6q) rfl (by kernel_rfl) (by kernel_rfl) (by kernel_rfl) (fun _ _ _ h => quiet_panic h) (Or.inl ⟨by rfl, ?y6q⟩) (rfl) ?_
            case y6q => (intro w' hw'; subst hw'; go_simp; first | done | with_reducible rfl | (intro hq; omega))
            simp only [Act.put, List.getElem_toArray, List.getElem_cons_zero, List.getElem_cons_succ, List.setIfInBounds_toArray, List.set_cons_zero, List.set_cons_succ]
            refine wpAnyH_take (i := 7) (v := (.agg #[.int .i64 d.k, .int .i64 d.n, .string d.s])) rfl (by kernel_rfl) (by kernel_rfl) (by kernel_rfl) (fun _ _ _ h => quiet_panic h) (Or.inl ⟨by rfl, ?y7q⟩) (rfl) ?_
            case y7q => (intro w' hw'; subst hw'; go_simp; first | done | with_reducible rfl | (intro hq; omega))
            simp only [Act.put, List.getElem_toArray, List.getElem_cons_zero, List.getElem_cons_succ, List.setIfInBounds_toArray, List.set_cons_zero, List.set_cons_succ]
            refine wpAnyH_take (i := 8) (v := (.bool false)) rfl (by kernel_rfl) (by kernel_rfl) (by kernel_rfl) (fun _ _ _ h => quiet_panic h) (Or.inl ⟨by rfl, ?y8q⟩) (rfl) ?_
            case y8q => (intro w' hw'; subst hw'; go_simp; first | done | with_reducible rfl | (intro hq; omega))
            simp only [Act.put, List.getElem_toArray, List.getElem_cons_zero, List.getElem_cons_succ, List.setIfInBounds_toArray, List.set_cons_zero, List.set_cons_succ]
            refine wpAnyH_take (i := 9) (v := (.bool false)) rfl (by kernel_rfl) (by kernel_rfl) (by kernel_rfl) (fun _ _ _ h => quiet_panic h) (Or.inl ⟨by rfl, ?y9q⟩) (rfl) ?_
            case y9q => (intro w' hw'; subst hw'; go_simp; first | done | with_reducible rfl | (intro hq; omega))
            simp only [Act.put, List.getElem_toArray, List.getElem_cons_zero, List.getElem_cons_succ, List.setIfInBounds_toArray, List.set_cons_zero, List.set_cons_succ]
            refine wpAnyH_done (by kernel_rfl) ?_ _
            refine ⟨rfl, ?_⟩
            gi_wp2
            refine region_wide (fun w' => w'.cell? ⟨px, 1, none⟩ = some (.int .i64 c.n) ∧ w'.cell? ⟨wr.heap.size, 0, none⟩ = some (.pointer (some ⟨py, 0, none⟩))) (by kernel_rfl) (by intro o ho c; simp at ho; rcases ho with (rfl | ho) <;> first | (simp; done) | (revert ho; intro ho; repeat' (rcases ho with (rfl | ho))) <;> simp_all) ?_
            refine wpAnyH_take (i := 0) (v := ?v0r) rfl (by kernel_rfl) (by kernel_rfl) (by kernel_rfl) (fun _ _ _ h => quiet_panic h) (Or.inl ⟨by rfl, ?y0r⟩) (⟨x1, cby⟩) ?_
            case y0r => (intro w' hw'; obtain ⟨k1, k2⟩ := hw'; go_simp; first | done | with_reducible rfl | (intro hq; omega))
            simp only [Act.put, List.getElem_toArray, List.getElem_cons_zero, List.getElem_cons_succ, List.setIfInBounds_toArray, List.set_cons_zero, List.set_cons_succ]
            refine wpAnyH_take (i := 1) (v := ?v1r) rfl (by kernel_rfl) (by kernel_rfl) (by kernel_rfl) (fun _ _ _ h => quiet_panic h) (Or.inl ⟨by rfl, ?y1r⟩) (⟨x1, cby⟩) ?_
            case y1r => (intro w' hw'; obtain ⟨k1, k2⟩ := hw'; go_simp; first | done | with_reducible rfl | (intro hq; omega))
            simp only [Act.put, List.getElem_toArray, List.getElem_cons_zero, List.getElem_cons_succ, List.setIfInBounds_toArray, List.set_cons_zero, List.set_cons_succ]
            refine wpAnyH_take (i := 2) (v := ?v2r) rfl (by kernel_rfl) (by kernel_rfl) (by kernel_rfl) (fun _ _ _ h => quiet_panic h) (Or.inl ⟨by rfl, ?y2r⟩) (⟨x1, cby⟩) ?_
            case y2r => (intro w' hw'; obtain ⟨k1, k2⟩ := hw'; go_simp; first | done | with_reducible rfl | (intro hq; omega))
            simp only [Act.put, List.getElem_toArray, List.getElem_cons_zero, List.getElem_cons_succ, List.setIfInBounds_toArray, List.set_cons_zero, List.set_cons_succ]
            refine wpAnyH_take (i := 3) (v := ?v3r) rfl (by kernel_rfl) (by kernel_rfl) (by kernel_rfl) (fun _ _ _ h => quiet_panic h) (Or.inl ⟨by rfl, ?y3r⟩) (⟨x1, cby⟩) ?_
            case y3r => (intro w' hw'; obtain ⟨k1, k2⟩ := hw'; go_simp; first | done | with_reducible rfl | (intro hq; omega))
            simp only [Act.put, List.getElem_toArray, List.getElem_cons_zero, List.getElem_cons_succ, List.setIfInBounds_toArray, List.set_cons_zero, List.set_cons_succ]
            refine wpAnyH_take (i := 4) (v := (.pointer (some ⟨px, 1, none⟩))) rfl (by kernel_rfl) (by kernel_rfl) (by kernel_rfl) (fun _ _ _ h => quiet_panic h) (Or.inl ⟨by rfl, ?y4r⟩) (⟨x1, cby⟩) ?_
            case y4r => (intro w' hw'; obtain ⟨k1, k2⟩ := hw'; go_simp; first | done | with_reducible rfl | (intro hq; omega))
            simp only [Act.put, List.getElem_toArray, List.getElem_cons_zero, List.getElem_cons_succ, List.setIfInBounds_toArray, List.set_cons_zero, List.set_cons_succ]
            refine wpAnyH_take (i := 5) (v := (.int .i64 c.n)) rfl (by kernel_rfl) (by kernel_rfl) (by kernel_rfl) (fun _ _ _ h => quiet_panic h) (Or.inl ⟨by rfl, ?y5r⟩) (⟨x1, cby⟩) ?_
            case y5r => (intro w' hw'; obtain ⟨k1, k2⟩ := hw'; go_simp; first | done | with_reducible rfl | (intro hq; omega))
            simp only [Act.put, List.getElem_toArray, List.getElem_cons_zero, List.getElem_cons_succ, List.setIfInBounds_toArray, List.set_cons_zero, List.set_cons_succ]
            refine wpAnyH_take (i := 6) (v := (.pointer (some ⟨py, 0, none⟩))) rfl (by kernel_rfl) (by kernel_rfl) (by kernel_rfl) (fun _ _ _ h => quiet_panic h) (Or.inl ⟨by rfl, ?y6r⟩) (⟨x1, cby⟩) ?_
            case y6r => (intro w' hw'; obtain ⟨k1, k2⟩ := hw'; go_simp; first | done | with_reducible rfl | (intro hq; omega))
            simp only [Act.put, List.getElem_toArray, List.getElem_cons_zero, List.getElem_cons_succ, List.setIfInBounds_toArray, List.set_cons_zero, List.set_cons_succ]
            refine wpAnyH_ready (rs := [7]) (by kernel_rfl) (by simp) ?_
            refine AllReadyH.cons rfl (fun K hK => ?_) AllReadyH.nil
            go_simp
            refine (unhide HBD).mono ?_
            clear HBD
            rintro e w2 (⟨hnr, rfl, hN2, hb2, hk2, hkp⟩ | ⟨hr, rfl, hb2⟩)
            · refine Shut.out hK _ _ ⟨(World.cell?_of_block (a := ⟨px, 1, none⟩) (hk2 px hSx)).trans x1, (keep3_boxed hby4 hkp (by decide) (by decide)).cell⟩ (fun _ => ?_)
              clear hK K
              try (simp only [Act.put, List.getElem_toArray, List.getElem_cons_zero, List.getElem_cons_succ, List.setIfInBounds_toArray, List.set_cons_zero, List.set_cons_succ])
              refine wpAnyH_take (i := 8) (v := (.bool true)) rfl (by kernel_rfl) (by kernel_rfl) (by kernel_rfl) (fun _ _ _ h => quiet_panic h) (Or.inl ⟨by rfl, ?y8r⟩) (⟨(World.cell?_of_block (a := ⟨px, 1, none⟩) (hk2 px hSx)).trans x1, (keep3_boxed hby4 hkp (by decide) (by decide)).cell⟩) ?_
              case y8r => (intro w' hw'; go_simp; first | done | with_reducible rfl)
              simp only [Act.put, List.getElem_toArray, List.getElem_cons_zero, List.getElem_cons_succ, List.setIfInBounds_toArray, List.set_cons_zero, List.set_cons_succ]
              refine wpAnyH_done (by kernel_rfl) ?_ _
              refine ⟨rfl, ?_⟩
              obtain ⟨n', hkn, hrel⟩ := unhide HYES w2 hnr hN2 hb2 hk2 hkp
              have HREL := hide hrel
              clear hrel hnr hN2 hb2 hk2 hkp
              gi_wp2
              refine Handed.intro n' ?measure ?_
              rotate_left
              first | gi_step | go_step
              refine frame_intro (by rfl) ?rel
              case rel => exact unhide HREL
              case measure => omega
            · refine Shut.out hK _ _ ⟨(hb2.cell (p := ⟨px, 1, none⟩) (by show px < W4.heap.size; have := hSl px hSx; omega)).trans x1, (hb2.cell (p := ⟨wr.heap.size, 0, none⟩) hz4).trans cby⟩ (fun _ => ?_)
              clear hK K
              try (simp only [Act.put, List.getElem_toArray, List.getElem_cons_zero, List.getElem_cons_succ, List.setIfInBounds_toArray, List.set_cons_zero, List.set_cons_succ])
              refine wpAnyH_take (i := 8) (v := (.bool false)) rfl (by kernel_rfl) (by kernel_rfl) (by kernel_rfl) (fun _ _ _ h => quiet_panic h) (Or.inl ⟨by rfl, ?y8s⟩) (⟨(hb2.cell (p := ⟨px, 1, none⟩) (by show px < W4.heap.size; have := hSl px hSx; omega)).trans x1, (hb2.cell (p := ⟨wr.heap.size, 0, none⟩) hz4).trans cby⟩) ?_
              case y8s => (intro w' hw'; go_simp; first | done | with_reducible rfl)
              simp only [Act.put, List.getElem_toArray, List.getElem_cons_zero, List.getElem_cons_succ, List.setIfInBounds_toArray, List.set_cons_zero, List.set_cons_succ]
              refine wpAnyH_done (by kernel_rfl) ?_ _
              refine ⟨rfl, ?_⟩
              have hres := unhide HNO hr
              have hM2 : MsM lo S w P s ds w2 := ⟨hM4.drew.drew.bnd.below hb2, fun b hb => (hb2.block b (by show b < W4.heap.size; have := hSl b hb; omega)).trans (hM4.sk b hb), hM4.drew.drew.below.trans (hb2.mono (by show lo ≤ W4.heap.size; omega)), (hM4.drew.drew.mkd.below (fun k hk => hb2.block k hk)).mono hb2.size⟩
              gi_wp2
              exact hM2.mkd.leaves (fun W => (∀ b, S b → W.heap[b]? = w.heap[b]?) ∧ Below lo w W) (fun W D hg hb hD => ⟨fun b hb' => (World.putObj_heap_other (fun e => by have := hSl b hb'; omega)).trans (hg.1 b hb'), hg.2.trans ⟨rfl, rfl, rfl, by simp [World.putObj], fun k hk => World.putObj_heap_other (by omega)⟩⟩) (fun W hg => ⟨.bool false, results_tmp (t := 6) rfl _ _ _, .inr ⟨by first | exact hres | rfl, rfl⟩, hg⟩) ⟨hM2.sk, hM2.below⟩
          · have hckb : (c.k == 1) = false := by simpa using hck
            by_cases hdk : d.k = 1
            · have hdkb : (d.k == 1) = true := by simpa using hdk
              obtain ⟨hY0, hUU⟩ := uni_var_right (unhide HU1) (unhide HNX) (unhide HNY) hck hdk
              have hgn : getB s d.n = [] := by
                obtain ⟨c', r', e1, h⟩ := (unhide HNY).head
                simp only [List.cons.injEq] at e1
                obtain ⟨rfl, _⟩ := e1
                exact h hdk
              have hcr := okC_var ((unhide HY).2 d (by simp)) hdk
              have hRm := unhide HR1
              have HBD := hide (implBind_any lo P px S s ⟨d.n, c :: (ks1.map (fun z : Nat × List C => z.2)).flatten⟩ W4.drew (by omega) hM4.drew.bnd (by show lo ≤ W4.heap.size; omega) (fun hm => (hRm.ok.bound.2 hm) hgn) (show (Lit.int .i64 d.n).wf = true from WalkArith.wf_i64 (by omega)) (TreeAt.kept (W' := W4.drew) hTX (fun _ h => h) (fun b hb => hM4.sk b hb)) (unhide HX).2 (unhide HLX) (unhide HOKT))
              have HYES : Hid (∀ w2 : World, ¬ Reach s (c :: (ks1.map (·.2)).flatten) d.n → Bnd lo w2 P S (s ++ [⟨d.n, c :: (ks1.map (·.2)).flatten⟩]) → Below lo W4.drew w2 → (∀ b, S b → w2.heap[b]? = W4.drew.heap[b]?) → Keep3 W4.drew w2 → ∃ n', k = n' + 1 ∧ MsAt lo S res sf w P n' ds w2) := fun w2 hnr h3 h4 h5 h6 => by
                obtain ⟨n', e, hU'⟩ := (hUU.resolve_right (fun h => hnr h.1)).2
                exact ⟨n', e, unhide HNEXT _ _ n' w2 hU' (hRm.bind hgn hcr (unhide HX) (unhide HLX) hnr (hU'.ok (hRm.ok.bind hgn (unhide HX) hnr) (fun q hq => hRm.prs q (by simp; exact .inr (by simpa using hq)))).2.1) h3 (((Below.refl lo W4).drew).trans h4) h5 h6⟩
              have HNO : Hid (Reach s (c :: (ks1.map (·.2)).flatten) d.n → res = none) := fun h => (hUU.resolve_left (fun h' => h'.1 h)).2
              clear hUU hgn hRm hck hdk hcd
              gi_wp2
              refine region_wide (fun w' => w' = W4.drew) (by kernel_rfl) (by intro o ho c; simp at ho; rcases ho with (rfl | ho) <;> first | (simp; done) | (revert ho; intro ho; repeat' (rcases ho with (rfl | ho))) <;> simp_all) ?_
              refine wpAnyH_take (i := 0) (v := ?v0q) rfl (by kernel_rfl) (by kernel_rfl) (by kernel_rfl) (fun _ _ _ h => quiet_panic h) (Or.inl ⟨by rfl, ?y0q⟩) (rfl) ?_
              case y0q => (intro w' hw'; subst hw'; go_simp; first | done | with_reducible rfl | (intro hq; omega))
              simp only [Act.put, List.getElem_toArray, List.getElem_cons_zero, List.getElem_cons_succ, List.setIfInBounds_toArray, List.set_cons_zero, List.set_cons_succ]
              refine wpAnyH_take (i := 1) (v := ?v1q) rfl (by kernel_rfl) (by kernel_rfl) (by kernel_rfl) (fun _ _ _ h => quiet_panic h) (Or.inl ⟨by rfl, ?y1q⟩) (rfl) ?_
              case y1q => (intro w' hw'; subst hw'; go_simp; first | done | with_reducible rfl | (intro hq; omega))
              simp only [Act.put, List.getElem_toArray, List.getElem_cons_zero, List.getElem_cons_succ, List.setIfInBounds_toArray, List.set_cons_zero, List.set_cons_succ]
              refine wpAnyH_take (i := 2) (v := ?v2q) rfl (by kernel_rfl) (by kernel_rfl) (by kernel_rfl) (fun _ _ _ h => quiet_panic h) (Or.inl ⟨by rfl, ?y2q⟩) (rfl) ?_
              case y2q => (intro w' hw'; subst hw'; go_simp; first | done | with_reducible rfl | (intro hq; omega))
              simp only [Act.put, List.getElem_toArray, List.getElem_cons_zero, List.getElem_cons_succ, List.setIfInBounds_toArray, List.set_cons_zero, List.set_cons_succ]
              refine wpAnyH_take (i := 3) (v := (.agg #[.int .i64 c.k, .int .i64 c.n, .string c.s])) rfl (by kernel_rfl) (by kernel_rfl) (by kernel_rfl) (fun _ _ _ h => quiet_panic h) (Or.inl ⟨by rfl, ?y3q⟩) (rfl) ?_
              case y3q => (intro w' hw'; subst hw'; go_simp; first | done | with_reducible rfl | (intro hq; omega))
              simp only [Act.put, List.getElem_toArray, List.getElem_cons_zero, List.getElem_cons_succ, List.setIfInBounds_toArray, List.set_cons_zero, List.set_cons_succ]
              refine wpAnyH_take (i := 4) (v := (.pointer (some ⟨py, 0, none⟩))) rfl (by kernel_rfl) (by kernel_rfl) (by kernel_rfl) (fun _ _ _ h => quiet_panic h) (Or.inl ⟨by rfl, ?y4q⟩) (rfl) ?_
              case y4q => (intro w' hw'; subst hw'; go_simp; first | done | with_reducible rfl | (intro hq; omega))
              simp only [Act.put, List.getElem_toArray, List.getElem_cons_zero, List.getElem_cons_succ, List.setIfInBounds_toArray, List.set_cons_zero, List.set_cons_succ]
              refine wpAnyH_take (i := 5) (v := ?v5q) rfl (by kernel_rfl) (by kernel_rfl) (by kernel_rfl) (fun _ _ _ h => quiet_panic h) (Or.inl ⟨by rfl, ?y5q⟩) (rfl) ?_
              case y5q => (intro w' hw'; subst hw'; go_simp; first | done | with_reducible rfl | (intro hq; omega))
              simp only [Act.put, List.getElem_toArray, List.getElem_cons_zero, List.getElem_cons_succ, List.setIfInBounds_toArray, List.set_cons_zero, List.set_cons_succ]
              refine wpAnyH_take (i := 6) (v := ?v6q) rfl (by kernel_rfl) (by kernel_rfl) (by kernel_rfl) (fun _ _ _ h => quiet_panic h) (Or.inl ⟨by rfl, ?y6q⟩) (rfl) ?_
              case y6q => (intro w' hw'; subst hw'; go_simp; first | done | with_reducible rfl | (intro hq; omega))
              simp only [Act.put, List.getElem_toArray, List.getElem_cons_zero, List.getElem_cons_succ, List.setIfInBounds_toArray, List.set_cons_zero, List.set_cons_succ]
              refine wpAnyH_take (i := 7) (v := (.agg #[.int .i64 d.k, .int .i64 d.n, .string d.s])) rfl (by kernel_rfl) (by kernel_rfl) (by kernel_rfl) (fun _ _ _ h => quiet_panic h) (Or.inl ⟨by rfl, ?y7q⟩) (rfl) ?_
              case y7q => (intro w' hw'; subst hw'; go_simp; first | done | with_reducible rfl | (intro hq; omega))
              simp only [Act.put, List.getElem_toArray, List.getElem_cons_zero, List.getElem_cons_succ, List.setIfInBounds_toArray, List.set_cons_zero, List.set_cons_succ]
              refine wpAnyH_take (i := 8) (v := (.bool false)) rfl (by kernel_rfl) (by kernel_rfl) (by kernel_rfl) (fun _ _ _ h => quiet_panic h) (Or.inl ⟨by rfl, ?y8q⟩) (rfl) ?_
              case y8q => (intro w' hw'; subst hw'; go_simp; first | done | with_reducible rfl | (intro hq; omega))
              simp only [Act.put, List.getElem_toArray, List.getElem_cons_zero, List.getElem_cons_succ, List.setIfInBounds_toArray, List.set_cons_zero, List.set_cons_succ]
              refine wpAnyH_take (i := 9) (v := (.bool false)) rfl (by kernel_rfl) (by kernel_rfl) (by kernel_rfl) (fun _ _ _ h => quiet_panic h) (Or.inl ⟨by rfl, ?y9q⟩) (rfl) ?_
              case y9q => (intro w' hw'; subst hw'; go_simp; first | done | with_reducible rfl | (intro hq; omega))
              simp only [Act.put, List.getElem_toArray, List.getElem_cons_zero, List.getElem_cons_succ, List.setIfInBounds_toArray, List.set_cons_zero, List.set_cons_succ]
              refine wpAnyH_done (by kernel_rfl) ?_ _
              refine ⟨rfl, ?_⟩
              gi_wp2
              refine ⟨trivial, ?_⟩
              refine (callsIn_wide.2 (unhide HBD)).mono ?_
              clear HBD
              rintro e w2 (⟨hnr, rfl, hN2, hb2, hk2, hkp⟩ | ⟨hr, rfl, hb2⟩)
              · obtain ⟨n', hkn, hrel⟩ := unhide HYES w2 hnr hN2 hb2 hk2 hkp
                have HREL := hide hrel
                clear hrel hnr hN2 hb2 hk2 hkp
                gi_wp2
                refine Handed.intro n' ?measure ?_
                rotate_left
                first | gi_step | go_step
                refine frame_intro (by rfl) ?rel
                case rel => exact unhide HREL
                case measure => omega
              · have hres := unhide HNO hr
                have hM2 : MsM lo S w P s ds w2 := ⟨hM4.drew.bnd.below hb2, fun b hb => (hb2.block b (by show b < W4.heap.size; have := hSl b hb; omega)).trans (hM4.sk b hb), hM4.drew.below.trans (hb2.mono (by show lo ≤ W4.heap.size; omega)), (hM4.drew.mkd.below (fun k hk => hb2.block k hk)).mono hb2.size⟩
                gi_wp2
                exact hM2.mkd.leaves (fun W => (∀ b, S b → W.heap[b]? = w.heap[b]?) ∧ Below lo w W) (fun W D hg hb hD => ⟨fun b hb' => (World.putObj_heap_other (fun e => by have := hSl b hb'; omega)).trans (hg.1 b hb'), hg.2.trans ⟨rfl, rfl, rfl, by simp [World.putObj], fun k hk => World.putObj_heap_other (by omega)⟩⟩) (fun W hg => ⟨.bool false, results_tmp (t := 6) rfl _ _ _, .inr ⟨by first | exact hres | rfl, rfl⟩, hg⟩) ⟨hM2.sk, hM2.below⟩
            · have hdkb : (d.k == 1) = false := by simpa using hdk
              have hres := uni_far (unhide HU1) (unhide HNX) (unhide HNY) hck hdk hcd
              have hM2 := hM4.drew
              clear hck hdk hcd
              gi_wp2
              refine region_wide (fun w' => w' = W4.drew) (by kernel_rfl) (by intro o ho c; simp at ho; rcases ho with (rfl | ho) <;> first | (simp; done) | (revert ho; intro ho; repeat' (rcases ho with (rfl | ho))) <;> simp_all) ?_
              refine wpAnyH_take (i := 0) (v := ?v0q) rfl (by kernel_rfl) (by kernel_rfl) (by kernel_rfl) (fun _ _ _ h => quiet_panic h) (Or.inl ⟨by rfl, ?y0q⟩) (rfl) ?_
              case y0q => (intro w' hw'; subst hw'; go_simp; first | done | with_reducible rfl | (intro hq; omega))
              simp only [Act.put, List.getElem_toArray, List.getElem_cons_zero, List.getElem_cons_succ, List.setIfInBounds_toArray, List.set_cons_zero, List.set_cons_succ]
              refine wpAnyH_take (i := 1) (v := ?v1q) rfl (by kernel_rfl) (by kernel_rfl) (by kernel_rfl) (fun _ _ _ h => quiet_panic h) (Or.inl ⟨by rfl, ?y1q⟩) (rfl) ?_
              case y1q => (intro w' hw'; subst hw'; go_simp; first | done | with_reducible rfl | (intro hq; omega))
              simp only [Act.put, List.getElem_toArray, List.getElem_cons_zero, List.getElem_cons_succ, List.setIfInBounds_toArray, List.set_cons_zero, List.set_cons_succ]
              refine wpAnyH_take (i := 2) (v := ?v2q) rfl (by kernel_rfl) (by kernel_rfl) (by kernel_rfl) (fun _ _ _ h => quiet_panic h) (Or.inl ⟨by rfl, ?y2q⟩) (rfl) ?_
              case y2q => (intro w' hw'; subst hw'; go_simp; first | done | with_reducible rfl | (intro hq; omega))
              simp only [Act.put, List.getElem_toArray, List.getElem_cons_zero, List.getElem_cons_succ, List.setIfInBounds_toArray, List.set_cons_zero, List.set_cons_succ]
              refine wpAnyH_take (i := 3) (v := (.agg #[.int .i64 c.k, .int .i64 c.n, .string c.s])) rfl (by kernel_rfl) (by kernel_rfl) (by kernel_rfl) (fun _ _ _ h => quiet_panic h) (Or.inl ⟨by rfl, ?y3q⟩) (rfl) ?_
              case y3q => (intro w' hw'; subst hw'; go_simp; first | done | with_reducible rfl | (intro hq; omega))
              simp only [Act.put, List.getElem_toArray, List.getElem_cons_zero, List.getElem_cons_succ, List.setIfInBounds_toArray, List.set_cons_zero, List.set_cons_succ]
              refine wpAnyH_take (i := 4) (v := (.pointer (some ⟨py, 0, none⟩))) rfl (by kernel_rfl) (by kernel_rfl) (by kernel_rfl) (fun _ _ _ h => quiet_panic h) (Or.inl ⟨by rfl, ?y4q⟩) (rfl) ?_
              case y4q => (intro w' hw'; subst hw'; go_simp; first | done | with_reducible rfl | (intro hq; omega))
              simp only [Act.put, List.getElem_toArray, List.getElem_cons_zero, List.getElem_cons_succ, List.setIfInBounds_toArray, List.set_cons_zero, List.set_cons_succ]
              refine wpAnyH_take (i := 5) (v := ?v5q) rfl (by kernel_rfl) (by kernel_rfl) (by kernel_rfl) (fun _ _ _ h => quiet_panic h) (Or.inl ⟨by rfl, ?y5q⟩) (rfl) ?_
              case y5q => (intro w' hw'; subst hw'; go_simp; first | done | with_reducible rfl | (intro hq; omega))
              simp only [Act.put, List.getElem_toArray, List.getElem_cons_zero, List.getElem_cons_succ, List.setIfInBounds_toArray, List.set_cons_zero, List.set_cons_succ]
              refine wpAnyH_take (i := 6) (v := ?v6q) rfl (by kernel_rfl) (by kernel_rfl) (by kernel_rfl) (fun _ _ _ h => quiet_panic h) (Or.inl ⟨by rfl, ?y6q⟩) (rfl) ?_
              case y6q => (intro w' hw'; subst hw'; go_simp; first | done | with_reducible rfl | (intro hq; omega))
              simp only [Act.put, List.getElem_toArray, List.getElem_cons_zero, List.getElem_cons_succ, List.setIfInBounds_toArray, List.set_cons_zero, List.set_cons_succ]
              refine wpAnyH_take (i := 7) (v := (.agg #[.int .i64 d.k, .int .i64 d.n, .string d.s])) rfl (by kernel_rfl) (by kernel_rfl) (by kernel_rfl) (fun _ _ _ h => quiet_panic h) (Or.inl ⟨by rfl, ?y7q⟩) (rfl) ?_
              case y7q => (intro w' hw'; subst hw'; go_simp; first | done | with_reducible rfl | (intro hq; omega))
              simp only [Act.put, List.getElem_toArray, List.getElem_cons_zero, List.getElem_cons_succ, List.setIfInBounds_toArray, List.set_cons_zero, List.set_cons_succ]
              refine wpAnyH_take (i := 8) (v := (.bool false)) rfl (by kernel_rfl) (by kernel_rfl) (by kernel_rfl) (fun _ _ _ h => quiet_panic h) (Or.inl ⟨by rfl, ?y8q⟩) (rfl) ?_
              case y8q => (intro w' hw'; subst hw'; go_simp; first | done | with_reducible rfl | (intro hq; omega))
              simp only [Act.put, List.getElem_toArray, List.getElem_cons_zero, List.getElem_cons_succ, List.setIfInBounds_toArray, List.set_cons_zero, List.set_cons_succ]
              refine wpAnyH_take (i := 9) (v := (.bool false)) rfl (by kernel_rfl) (by kernel_rfl) (by kernel_rfl) (fun _ _ _ h => quiet_panic h) (Or.inl ⟨by rfl, ?y9q⟩) (rfl) ?_
              case y9q => (intro w' hw'; subst hw'; go_simp; first | done | with_reducible rfl | (intro hq; omega))
              simp only [Act.put, List.getElem_toArray, List.getElem_cons_zero, List.getElem_cons_succ, List.setIfInBounds_toArray, List.set_cons_zero, List.set_cons_succ]
              refine wpAnyH_done (by kernel_rfl) ?_ _
              refine ⟨rfl, ?_⟩
              gi_wp2
              exact hM2.mkd.leaves (fun W => (∀ b, S b → W.heap[b]? = w.heap[b]?) ∧ Below lo w W) (fun W D hg hb hD => ⟨fun b hb' => (World.putObj_heap_other (fun e => by have := hSl b hb'; omega)).trans (hg.1 b hb'), hg.2.trans ⟨rfl, rfl, rfl, by simp [World.putObj], fun k hk => World.putObj_heap_other (by omega)⟩⟩) (fun W hg => ⟨.bool false, results_tmp (t := 6) rfl _ _ _, .inr ⟨by first | exact hres | rfl, rfl⟩, hg⟩) ⟨hM2.sk, hM2.below⟩
end Go.Proofs.Ytonpahhcfgdeoaa
