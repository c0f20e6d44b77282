import Derived.Test.YtonpahhcfgdeoaaQT1T2
import Derived.RangeFuncWrites
import Derived.RangeFuncLeaves
import Derived.RangeFuncCalls
import Derived.RangeFuncBox
import Derived.Test.YtonpahhcfgdeoaaQFL2FL6LD1
import Derived.Sort.LoopGhostIn
/- slices.Backward over a tree's args: what it tells, in which order. -/
namespace Go.Proofs.Ytonpahhcfgdeoaa
open Go.RowKit
set_option linter.unusedVariables false
set_option linter.unusedSimpArgs false
attribute [local go_sem] Oper.semAt_some

/-- What the body of a round keeps: what lay below n₀, and one cell more. -/
def KBt (n₀ Bt : Nat) (W W' : World) : Prop := KpS n₀ W W' ∧ ∀ v, W.cell? ⟨Bt, 0, none⟩ = some v → W'.cell? ⟨Bt, 0, none⟩ = some v
theorem KBt.refl (n₀ Bt : Nat) (W : World) : KBt n₀ Bt W W := ⟨KpS.refl _ _, fun _ h => h⟩
theorem KBt.trans {n₀ Bt : Nat} {A B C : World} (h : KBt n₀ Bt A B) (k : KBt n₀ Bt B C) : KBt n₀ Bt A C := ⟨h.1.trans k.1, fun v hv => k.2 v (h.2 v hv)⟩

theorem backward_in (F : Fence) (n : Nat) (hfn : F.fn 100) (hro : F.round = none) (ao : Option Addr) (k cap : Nat) (w : World) :
    CallsIn F n Try.prog 100 #[.slice ao k cap] w fun e w' => e = .returned (.func (.func 108) #[] #[.pointer (some ⟨w.heap.size, 0, none⟩)]) ∧ w' = w.alloc (.cells #[.slice ao k cap] 93) := by
  refine callsIn_of_wp Try.func100 rfl hfn ?_ hro
  simp only [Try.ntmps100, List.size_toArray, List.length_cons, List.length_nil, Nat.reduceAdd, Nat.reduceSub, Array.replicate_succ, Array.replicate_zero, List.push_toArray, List.append_toArray, List.nil_append, List.cons_append]
  gi_wp2
  go_ret
  exact ⟨rfl, rfl⟩

set_option maxRecDepth 100000 in
set_option maxHeartbeats 2000000 in
theorem backward1_in {α : Type} (ix bl : α → Nat) (F : Fence) (hd : F.depth = none) (n : Nat) (hfn : F.fn 108) (hro : F.round = none) (l n₀ Bt : Nat) (xs : List α) (J Jx : List α → World → Prop)
    (hY : ∀ pre x W, J pre W → pre.length < xs.length → YieldAt F (n - 1) Try.prog l #[.int .i64 (ix x), .pointer (some ⟨bl x, 0, none⟩)] W fun e W' =>
      (e = .returned (.bool true) ∧ J (pre ++ [x]) W' ∧ KBt n₀ Bt W W') ∨ (e = .returned (.bool false) ∧ Jx (pre ++ [x]) W'))
    (W : World) (ao : Option Addr) (cap : Nat) (hml : xs.length ≤ maxLen) (hBt : W.cell? ⟨Bt, 0, none⟩ = some (.slice ao xs.length cap))
    (hix : ∀ j, (h : j < xs.length) → ix xs[j] + j + 1 = xs.length)
    (hr : xs = [] ∨ ∃ q, ao = some ⟨q, 0, none⟩ ∧ q < n₀ ∧ ∀ j, (h : j < xs.length) → W.cell? ⟨q, ix xs[j], none⟩ = some (.pointer (some ⟨bl xs[j], 0, none⟩))) (h0 : J [] W) :
    CallsIn F n Try.prog 108 #[.func (.yield l) #[] #[], .pointer (some ⟨Bt, 0, none⟩)] W fun e W' => (∃ v, e = .returned v) ∧
      ((∃ ys, ys = xs ∧ J ys W') ∨ (∃ pre, pre <+: xs ∧ Jx pre W')) := by
  have hdd : ∀ k : Nat, (F.depth.isSome = true → 1 ≤ k) := fun k h => by rw [hd] at h; cases h
  have hk64 : xs.length ≤ 9223372036854775807 := by unfold maxLen at hml; omega
  refine callsIn_of_wp Try.func108 rfl hfn ?_ hro
  simp only [Try.ntmps108, List.size_toArray, List.length_cons, List.length_nil, Nat.reduceAdd, Nat.reduceSub, Array.replicate_succ, Array.replicate_zero, List.push_toArray, List.append_toArray, List.nil_append, List.cons_append]
  gi_wp2
  gi_loopw [3] (fun i wr => ∃ (k : Nat) (es bs : List α), i = .int .i64 ((k : Int) - 1) ∧ xs = es ++ bs ∧ bs.length = k ∧ J es wr ∧ KBt n₀ Bt W wr) (fun i _ => (intOf i + 1).toNat)
  case atStart => exact ⟨xs.length, [], xs, by go_num, rfl, rfl, h0, KBt.refl _ _ _⟩
  case round =>
    obtain ⟨k, es, bs, hi, hab, hk, hJ, hK⟩ := hrel
    have hBt' := hK.2 _ hBt
    cases bs with
    | nil =>
      simp at hk
      subst hk
      subst hi
      have HAB := hide hab
      clear hab
      gi_wp2
      go_end0
      exact ⟨⟨_, rfl⟩, .inl ⟨_, rfl, by rw [unhide HAB]; simpa using hJ⟩⟩
    | cons x bs =>
      subst hk
      rw [List.length_cons, show (((bs.length + 1 : Nat) : Int) - 1) = (bs.length : Int) by omega] at hi
      subst hi
      rcases hr with hr | ⟨q, rfl, hq, hr⟩
      · rw [hr] at hab; simp at hab
      have hl : xs.length = es.length + (bs.length + 1) := by rw [hab]; simp
      have hlt : es.length < xs.length := by omega
      have hx : xs[es.length] = x := by simp [hab]
      have hj := hix es.length hlt
      rw [hx] at hj
      have hj' : ix x = bs.length := by omega
      have hck := hK.1 _ _ _ hq (hr es.length hlt) (fun _ _ h => by cases h)
      rw [hx, hj'] at hck
      have hlt2 : bs.length < xs.length := by omega
      have hyy := hY es x wr hJ hlt
      rw [hj'] at hyy
      obtain ⟨fn, tmps, assign, body, hy, hR⟩ := hyy
      have HAB := hide hab
      clear hab hY hr hix hJ hj hj' hx hl hlt h0
      gi_wp2
      refine hR.mono ?_
      clear hR hy
      rintro e W1 (⟨rfl, hJ1, hk1⟩ | ⟨rfl, hx1⟩)
      · gi_wp2
        go_roundw
        case rel => exact ⟨bs.length, es ++ [x], bs, by go_num, by rw [unhide HAB]; simp, rfl, hJ1, hK.trans hk1⟩
        case measure => simp [intOf]
      · gi_wp2
        (try simp only [Exit.inBlock, Exit.then]); refine bodyPost_ret (results_none rfl _ _ _) rfl ?_
        exact ⟨⟨_, rfl⟩, .inr ⟨es ++ [x], ⟨bs, by rw [unhide HAB]; simp⟩, hx1⟩⟩

/-- What slices.Backward tells, as the rule for range wants it. -/
theorem backward_stops {α : Type} (ix bl : α → Nat) (F : Fence) (hd : F.depth = none) (n : Nat) (hfn : F.fn 108) (hro : F.round = none) (n₀ Bt : Nat) (xs : List α) (w : World) (hBl : Bt < w.heap.size) (hn₀ : n₀ ≤ w.heap.size) (ao : Option Addr) (cap : Nat) (hml : xs.length ≤ maxLen)
    (hBt : w.cell? ⟨Bt, 0, none⟩ = some (.slice ao xs.length cap)) (hix : ∀ j, (h : j < xs.length) → ix xs[j] + j + 1 = xs.length)
    (hr : xs = [] ∨ ∃ q, ao = some ⟨q, 0, none⟩ ∧ q < n₀ ∧ ∀ j, (h : j < xs.length) → w.cell? ⟨q, ix xs[j], none⟩ = some (.pointer (some ⟨bl xs[j], 0, none⟩))) :
    SeqStopsK F n Try.prog 108 #[.pointer (some ⟨Bt, 0, none⟩)] (fun x : α => #[Value.int .i64 (ix x), Value.pointer (some ⟨bl x, 0, none⟩)]) (KBt n₀ Bt) (fun ys => ys = xs) (fun pre => pre <+: xs) xs.length w := fun l J Jx W hW _ _ hY h0 =>
  backward1_in ix bl F hd n hfn hro l n₀ Bt xs J Jx hY W ao cap hml ((hW.cell (p := ⟨Bt, 0, none⟩) hBl).trans hBt) hix
    (hr.imp_right fun ⟨q, e, hq, h⟩ => ⟨q, e, hq, fun j hj => (hW.cell (p := ⟨q, _, none⟩) (by simp; omega)).trans (h j hj)⟩) h0

theorem kbtK_t {n₀ Bt : Nat} {A B C : World} (h : KBt n₀ Bt A B) (k : KBt n₀ Bt B C) : KBt n₀ Bt A C := h.trans k
theorem KBt.of_below {n₀ m Bt : Nat} {A B : World} (h : Below m A B) (hn : n₀ ≤ m) (hb : Bt < m) : KBt n₀ Bt A B := ⟨KpS.of_below (h.mono hn), fun v hv => (h.cell (p := ⟨Bt, 0, none⟩) hb).trans hv⟩
theorem kbtK_b {n₀ Bt : Nat} {w : World} (hn : n₀ ≤ w.heap.size) (hb : Bt < w.heap.size) (W : World) (l : Nat) (o o' : Obj) (hl : w.heap.size ≤ l) (h : W.heap[l]? = some o) (h1 : o.isCells = false) (h2 : o.isWalk = false) : KBt n₀ Bt W (W.putObj l o') := KBt.of_below (belowK_b (Nat.le_refl _) W l o o' hl h h1 h2) hn hb
end Go.Proofs.Ytonpahhcfgdeoaa

/- Marks that loops over iterators leave behind, any number of them: what keeps them, and how a function leaves past them. -/
namespace Go.Proofs.Ytonpahhcfgdeoaa
open Go.RowKit
set_option linter.unusedVariables false

/-- A loop's mark. -/
def markD (D : Nat) : Deferred := { target := .collected D, args := #[] }

/-- Deferred calls that are marks alone: each one's block is open, they part, and all of them lie from base on, below hi. -/
def Marked (base hi : Nat) (W : World) (ds : List Deferred) : Prop := ∃ Ds : List Nat, ds = Ds.map markD ∧ Ds.Nodup ∧ ∀ D ∈ Ds, base ≤ D ∧ D < hi ∧ W.heap[D]? = some (.deferred (some []))

theorem Marked.nil (base hi : Nat) (W : World) : Marked base hi W [] := ⟨[], rfl, .nil, fun _ h => by cases h⟩
theorem Marked.push {base hi hi' : Nat} {W : World} {ds : List Deferred} (h : Marked base hi W ds) {D : Nat} (hb : base ≤ D) (h1 : hi ≤ D) (h2 : D < hi') (hD : W.heap[D]? = some (.deferred (some []))) : Marked base hi' W ({ target := .collected D, args := #[] } :: ds) := by
  obtain ⟨Ds, rfl, hn, ha⟩ := h
  refine ⟨D :: Ds, rfl, List.nodup_cons.2 ⟨fun hm => ?_, hn⟩, fun D' hm => ?_⟩
  · have := (ha D hm).2.1
    omega
  · rcases List.mem_cons.1 hm with rfl | hm
    · exact ⟨hb, h2, hD⟩
    · obtain ⟨a, b, c⟩ := ha D' hm
      exact ⟨a, by omega, c⟩
theorem Marked.mono {base hi hi' : Nat} {W : World} {ds : List Deferred} (h : Marked base hi W ds) (hh : hi ≤ hi') : Marked base hi' W ds := by
  obtain ⟨Ds, e, hn, ha⟩ := h
  exact ⟨Ds, e, hn, fun D hm => ⟨(ha D hm).1, Nat.lt_of_lt_of_le (ha D hm).2.1 hh, (ha D hm).2.2⟩⟩
theorem Marked.keeps {base hi : Nat} {W W' : World} {ds : List Deferred} (h : Marked base hi W ds) (hk : KeepsOthers W W') : Marked base hi W' ds := by
  obtain ⟨Ds, e, hn, ha⟩ := h
  exact ⟨Ds, e, hn, fun D hm => ⟨(ha D hm).1, (ha D hm).2.1, hk.same _ _ (ha D hm).2.2 rfl⟩⟩
theorem Marked.below {base hi : Nat} {W W' : World} {ds : List Deferred} (h : Marked base hi W ds) (hk : ∀ k, k < hi → W'.heap[k]? = W.heap[k]?) : Marked base hi W' ds := by
  obtain ⟨Ds, e, hn, ha⟩ := h
  exact ⟨Ds, e, hn, fun D hm => ⟨(ha D hm).1, (ha D hm).2.1, (hk _ (ha D hm).2.1).trans (ha D hm).2.2⟩⟩
theorem Marked.ownFrom {β : Type} {base hi B : Nat} (hB : hi ≤ B) (ds : List Deferred) : OwnFrom B (fun (_ : β) W => Marked base hi W ds) := by
  intro s W W' row h hg hr
  obtain ⟨Ds, e, hn, ha⟩ := h
  refine ⟨Ds, e, hn, fun D hm => ?_⟩
  obtain ⟨a, b, c⟩ := ha D hm
  refine ⟨a, b, (hg.block D (Array.getElem?_eq_some_iff.1 c).1 (fun er => ?_)).trans c⟩
  have := (hr D er.symm).1
  omega

/-- A function leaves past its marks: what abides that open blocks from base on are shut holds behind. -/
theorem leaves_marks {F : Fence} {n : Nat} {P : Program} {fn : Func} {tmps : Array Value} {R : Ending → World → Prop} {base hi : Nat} (G : World → Prop)
    (hG : ∀ W D, G W → base ≤ D → W.heap[D]? = some (.deferred (some [])) → G (W.putObj D (.deferred none)))
    (hR : ∀ W, G W → ∃ v, (results fn tmps).run P W = .ok v W ∧ R (.returned v) W) : ∀ (Ds : List Nat) (W : World), Ds.Nodup → (∀ D ∈ Ds, base ≤ D ∧ D < hi ∧ W.heap[D]? = some (.deferred (some []))) → G W →
    LeavesInM F n P fn tmps R (Ds.map markD) .returning W
  | [], W, _, _, hg => hR W hg
  | D :: Ds, W, hn, ha, hg => by
    obtain ⟨h1, h2⟩ := List.nodup_cons.1 hn
    obtain ⟨a, b, c⟩ := ha D (by simp)
    refine ⟨by simp, .inl ⟨D, _, rfl, run_takeDeferred c, leaves_marks (hi := hi) G hG hR Ds _ h2 (fun D' hm => ?_) (hG W D hg a c)⟩⟩
    obtain ⟨a', b', c'⟩ := ha D' (by simp [hm])
    exact ⟨a', b', (World.putObj_heap_other (fun e => h1 (by subst e; exact hm))).trans c'⟩

theorem Marked.leaves {F : Fence} {n : Nat} {P : Program} {fn : Func} {tmps : Array Value} {R : Ending → World → Prop} {base hi : Nat} {W : World} {ds : List Deferred} (h : Marked base hi W ds) (G : World → Prop)
    (hG : ∀ W D, G W → base ≤ D → W.heap[D]? = some (.deferred (some [])) → G (W.putObj D (.deferred none)))
    (hR : ∀ W, G W → ∃ v, (results fn tmps).run P W = .ok v W ∧ R (.returned v) W) (hg : G W) : LeavesInM F n P fn tmps R ds .returning W := by
  obtain ⟨Ds, rfl, hn, ha⟩ := h
  exact leaves_marks G hG hR Ds W hn ha hg
end Go.Proofs.Ytonpahhcfgdeoaa

/- The walk of full. -/

namespace Go.Proofs.Ytonpahhcfgdeoaa
open Go.RowKit Go.Maps
set_option linter.unusedVariables false
set_option linter.unusedSimpArgs false
attribute [local go_sem] Oper.semAt_some
attribute [-go_sem] Go.Builtin.append_

/-- What full tells. -/
def FlOut (t' : List C) (w : World) (e : Ending) (w' : World) : Prop := ∃ v, e = .returned v ∧ OwnC w' w.heap.size v (if t'.length ≤ 40 then t' else []) ∧ (¬ t'.length ≤ 40 → v = .slice none 0 0) ∧ Below w.heap.size w w'
theorem flOut_yes {t' : List C} {w w' : World} {v : Value} (h : t'.length ≤ 40) (ho : OwnC w' w.heap.size v t') (hb : Below w.heap.size w w') : FlOut t' w (.returned v) w' := ⟨v, rfl, by rw [if_pos h]; exact ho, fun hn => absurd h hn, hb⟩
theorem flOut_no {t' : List C} {w w' : World} (h : ¬ t'.length ≤ 40) (hb : Below w.heap.size w w') : FlOut t' w (.returned (.slice none 0 0)) w' := ⟨_, rfl, by rw [if_neg h]; exact World.ownsRow_nil _ _ _ _, fun _ => rfl, hb⟩
theorem shut_below {w W : World} {D : Nat} (h : Below w.heap.size w W) (hb : w.heap.size ≤ D) (hD : W.heap[D]? = some (.deferred (some []))) : Below w.heap.size w (W.putObj D (.deferred none)) := h.trans (belowK_b (w := w) (Nat.le_refl _) _ D _ _ hb hD rfl rfl)

/-- Pointers to trees. -/
def stkP (st : List (Nat × List C)) : List Value := st.map fun x => .pointer (some ⟨x.1, 0, none⟩)

/-- How far full has come: what is told, and the stack of what is left, the next one first. -/
def FulAt (S : Nat → Prop) (s : List B) (t' : List C) (w : World) (k : Nat) (ov : Value) (ds : List Deferred) (wr : World) : Prop :=
  ∃ (st : List (Nat × List C)) (o rest : List C) (wv : Value) (m : Nat), k = rest.length ∧ Exp s m (st.map (·.2)).flatten rest ∧ o ++ rest = t' ∧ o.length ≤ 40 ∧ st.length ≤ 42 ∧ OwnC wr w.heap.size ov o ∧ Boxed wr (w.heap.size + 1) 93 wv ∧
    wr.ownsRow w.heap.size 69 1 wv st.length (stkP st.reverse) ∧ (∀ x ∈ st, TreeAt S w x.1 x.2 ∧ ∀ c ∈ x.2, okC c = true) ∧ Below w.heap.size w wr ∧ Marked w.heap.size wr.heap.size wr ds

theorem row_shape {w : World} {base e size n : Nat} {v : Value} {xs : List Value} (h : w.ownsRow base e size v n xs) : ∃ ao cap, v = .slice ao n cap ∧ n ≤ cap ∧ cap ≤ maxLen := by
  rcases h.2 with ⟨rfl, rfl⟩ | ⟨g, cap, cur, rfl, _, _, h1, h2, _⟩
  · exact ⟨none, 0, rfl, Nat.le_refl _, by simp [maxLen]⟩
  · exact ⟨_, cap, rfl, h1, h2⟩

theorem row_cells {w : World} {base e n : Nat} {v : Value} {xs : List Value} (h : w.ownsRow base e 1 v n xs) (hn : 0 < n) : ∃ g cap, v = .slice (some ⟨g, 0, none⟩) n cap ∧ n ≤ cap ∧ cap ≤ maxLen ∧ base ≤ g ∧ g < w.heap.size ∧ xs.length = n ∧ ∀ i, (hi : i < xs.length) → w.cell? ⟨g, i, none⟩ = some xs[i] := by
  obtain ⟨hl, ⟨rfl, rfl⟩ | ⟨g, cap, cur, rfl, h1, h2, h3, h4, h5, h6⟩⟩ := h
  · omega
  · refine ⟨g, cap, rfl, h3, h4, h1, (Array.getElem?_eq_some_iff.1 h2).1, by omega, fun i hi => ?_⟩
    have hi2 : i < cur.size := by omega
    have e : xs[i] = cur[i] := by
      have : xs[i]? = cur[i]? := by rw [← h6, List.getElem?_take_of_lt (by omega)]; simp
      rw [List.getElem?_eq_getElem hi, Array.getElem?_eq_getElem hi2] at this
      exact Option.some.inj this
    simp [World.cell?, h2, e, hi2]

theorem row_pop {w : World} {base e n cap : Nat} {ao : Option Addr} {xs : List Value} {x : Value} (h : w.ownsRow base e 1 (.slice ao (n + 1) cap) (n + 1) (xs ++ [x])) : w.ownsRow base e 1 (.slice ao n cap) n xs := by
  have hl : xs.length = n := by have := h.1; simp at this; omega
  refine ⟨by omega, ?_⟩
  rcases h.2 with ⟨e, hn⟩ | ⟨g, cap', cur, e, hg, hh, hc, hm, hs, ht⟩
  · omega
  · simp only [Value.slice.injEq] at e
    obtain ⟨rfl, _, rfl⟩ := e
    refine .inr ⟨g, cap, cur, rfl, hg, hh, by omega, hm, hs, ?_⟩
    have h3 : (cur.toList.take ((n + 1) * 1)).take n = cur.toList.take (n * 1) := by rw [List.take_take]; congr 1; omega
    rw [← h3, ht, List.take_append_of_le_length (by omega), ← hl, List.take_length]

theorem row_apart {w : World} {base base' e e' size size' n n' : Nat} {v v' : Value} {xs xs' : List Value} (h : w.ownsRow base e size v n xs) (h' : w.ownsRow base' e' size' v' n' xs') (he : e ≠ e') : v.ownBlock = none ∨ v.ownBlock ≠ v'.ownBlock := by
  rcases h.2 with ⟨rfl, _⟩ | ⟨g, cap, cur, rfl, _, hg, _⟩
  · exact .inl rfl
  · rcases h'.2 with ⟨rfl, _⟩ | ⟨g', cap', cur', rfl, _, hg', _⟩
    · right; simp [Value.ownBlock]
    · right
      simp only [Value.ownBlock, ne_eq, Option.some.injEq]
      rintro rfl
      rw [hg] at hg'
      simp at hg'
      exact he hg'.2
theorem keeps_grown {w w1 : World} {base e size n : Nat} {v : Value} {xs : List Value} (h : w.ownsRow base e size v n xs) (tmp : Obj) (hgrow : (w.alloc tmp).grownBy w1 v.ownBlock) : KeepsOthers w w1 := by
  refine (KeepsOthers.alloc w tmp).trans (KeepsOthers.of_grownBy hgrow fun j o ej hj => ?_)
  rcases (World.ownsRow.alloc h tmp).2 with ⟨rfl, _⟩ | ⟨g, cap, cur, rfl, _, hgb, _⟩
  · simp [Value.ownBlock] at ej
  · obtain rfl : g = j := by simpa [Value.ownBlock] using ej
    rw [hgb] at hj; cases hj; rfl
theorem below_grown {w w1 : World} {base e size n : Nat} {v : Value} {xs : List Value} (h : w.ownsRow base e size v n xs) (hb : base ≤ w.heap.size) (tmp : Obj) (hgrow : (w.alloc tmp).grownBy w1 v.ownBlock) : Below base w w1 :=
  ((Below.refl base w).alloc hb tmp).grown hgrow (by simp; omega) fun j ej => (World.ownsRow.lt h j ej).1

theorem row_own {β : Type} (base e size n : Nat) (v : Value) (xs : List Value) : Own (fun (_ : β) W => W.ownsRow base e size v n xs) := by
  intro s X Y row hr hg hrow
  refine hr.kept hg ?_
  rcases hr.2 with ⟨rfl, _⟩ | ⟨g, cap, cur, rfl, _, hgb, _⟩
  · exact .inl rfl
  · right
    intro e'
    obtain ⟨o, ho, hc⟩ := hrow g e'.symm
    rw [hgb] at ho; cases ho; cases hc

/-- A place more than there are: each tree on the stack is one at least. -/
theorem stack_len {S : Nat → Prop} {w : World} {st : List (Nat × List C)} (h : ∀ x ∈ st, TreeAt S w x.1 x.2 ∧ ∀ c ∈ x.2, okC c = true) : st.length ≤ ((st.map (·.2)).flatten).length := by
  induction st with
  | nil => simp
  | cons x st ih =>
    have h1 := ih (fun y hy => h y (by simp [hy]))
    have h2 : x.2.length ≠ 0 := fun e => (h x (by simp)).1.ne (List.length_eq_zero_iff.1 e)
    simp only [List.length_cons, List.map_cons, List.flatten_cons, List.length_append]
    omega

end Go.Proofs.Ytonpahhcfgdeoaa
