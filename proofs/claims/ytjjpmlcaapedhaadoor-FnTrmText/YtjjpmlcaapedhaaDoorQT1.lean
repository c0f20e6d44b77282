/- Trees in memory: their shape, what keeps it; the walks of tell, nodes. -/
import Derived.RangeFuncNested
import Derived.RangeFuncBound
import Derived.RangeFuncCalls
import Derived.RangeFuncLeaves
import Derived.RangeFuncBox
import Derived.Shelf.Abstract
import Derived.Shelf.RegionOpen
import Derived.WalkKit
import Derived.OwnWalkIn
import Derived.TacticsInMore
import Derived.LoopNIn
import Derived.LoopIn
import Derived.Test.YtjjpmlcaapedhaaDoorQMem2Mem3W9W11W12
import Derived.Test.YtjjpmlcaapedhaaDoorQYW1YB1YB2W2
namespace Go.Proofs.YtjjpmlcaapedhaaDoor
open Go.RowKit Go.Shelf
set_option linter.unusedVariables false
set_option linter.unusedSimpArgs false
attribute [local go_sem] Oper.semAt_some

/-- What a world keeps of another, but for ints: all that lies in the blocks of S. -/
def KpS (n₀ : Nat) (W W' : World) : Prop := ∀ b i v, b < n₀ → W.cell? ⟨b, i, none⟩ = some v → (∀ q z, v ≠ .int q z) → W'.cell? ⟨b, i, none⟩ = some v

theorem KpS.refl (n₀ : Nat) (W : World) : KpS n₀ W W := fun _ _ _ _ h _ => h
theorem KpS.trans {n₀ : Nat} {A B C : World} (h : KpS n₀ A B) (k : KpS n₀ B C) : KpS n₀ A C := fun b i v hb hc hv => k b i v hb (h b i v hb hc hv) hv
theorem KpS.of_below {n₀ : Nat} {A B : World} (h : Below n₀ A B) : KpS n₀ A B := fun b i v hb hc _ => (h.cell (p := ⟨b, i, none⟩) hb).trans hc

/-- From block p on lies a tree, no higher than f, all of it below n₀; its nodes' blocks, in the order of places, are gs. -/
def Shp (n₀ : Nat) (W : World) : Nat → Nat → List Nat → Prop
  | 0, _, _ => False
  | f + 1, p, gs => ∃ (ks : List (Nat × List Nat)) (ao : Option Addr) (cap : Nat), gs = p :: (ks.map (·.2)).flatten ∧ p < n₀ ∧ ks.length ≤ maxLen ∧ W.cell? ⟨p, 3, none⟩ = some (.slice ao ks.length cap) ∧
      (ks = [] ∨ ∃ q, ao = some ⟨q, 0, none⟩ ∧ q < n₀ ∧ ∀ i, (h : i < ks.length) → W.cell? ⟨q, i, none⟩ = some (.pointer (some ⟨ks[i].1, 0, none⟩))) ∧ ∀ k ∈ ks, Shp n₀ W f k.1 k.2

theorem Shp.kept {n₀ : Nat} {W W' : World} (hk : KpS n₀ W W') : ∀ {f p : Nat} {gs : List Nat}, Shp n₀ W f p gs → Shp n₀ W' f p gs
  | f + 1, p, gs, ⟨ks, ao, cap, hg, hp, hm, hc, hr, hs⟩ => ⟨ks, ao, cap, hg, hp, hm, hk _ _ _ hp hc (fun _ _ h => by cases h), hr.imp_right fun ⟨q, e, hq, h⟩ => ⟨q, e, hq, fun i hi => hk _ _ _ hq (h i hi) (fun _ _ h => by cases h)⟩, fun k hm => (hs k hm).kept hk⟩

theorem Shp.below {n₀ : Nat} {W W' : World} (hk : Below n₀ W W') {f p : Nat} {gs : List Nat} (h : Shp n₀ W f p gs) : Shp n₀ W' f p gs := h.kept (KpS.of_below hk)

theorem room_of_none {F : Fence} (hd : F.depth = none) (k : Nat) : F.room k := fun d h => by rw [hd] at h; cases h
theorem round_anyDepth {F : Fence} (hd : F.depth = none) {m m' : Nat} {P : Program} {l : Nat} {f : FuncId} {tmps : Array Value} {assign body : Code} {w : World} {R : Ending → World → Prop}
    (h : RoundIn F m P l f tmps assign body w R) : RoundIn F m' P l f tmps assign body w R := ⟨h.1, fun c cs _ => h.2 c cs (room_of_none hd _)⟩
theorem yield_anyDepth {F : Fence} (hd : F.depth = none) {m : Nat} (m' : Nat) {P : Program} {l : Nat} {args : Array Value} {W : World} {R : Ending → World → Prop} (h : YieldAt F m P l args W R) : YieldAt F m' P l args W R := by
  obtain ⟨fn, tmps, assign, body, hy, hR⟩ := h
  exact ⟨fn, tmps, assign, body, hy, round_anyDepth hd hR⟩

theorem pre_of_append {α : Type} (a b : List α) : a <+: a ++ b := ⟨b, rfl⟩

set_option maxRecDepth 100000 in
set_option maxHeartbeats 2000000 in
theorem tell_in {α : Type} (bl : α → Nat) (F : Fence) (hd : F.depth = none) (hfn : F.fn 60) (hro : F.round = none) (l n₀ N : Nat) (J Jx : List α → World → Prop)
    (hY : ∀ m pre x W, J pre W → pre.length < N → YieldAt F m Tryd.prog l #[.pointer (some ⟨bl x, 0, none⟩)] W fun e W' =>
      (e = .returned (.bool true) ∧ J (pre ++ [x]) W' ∧ KpS n₀ W W') ∨ (e = .returned (.bool false) ∧ Jx (pre ++ [x]) W')) :
    ∀ (f n p : Nat) (gs : List Nat) (xs pre : List α) (W : World), Shp n₀ W f p gs → xs.map bl = gs → J pre W → pre.length + xs.length ≤ N →
      CallsIn F n Tryd.prog 60 #[.pointer (some ⟨p, 0, none⟩), .func (.yield l) #[] #[]] W fun e W' =>
        (e = .returned (.bool true) ∧ J (pre ++ xs) W' ∧ KpS n₀ W W') ∨ (e = .returned (.bool false) ∧ ∃ q, q <+: xs ∧ Jx (pre ++ q) W')
  | 0, _, _, _, _, _, _, h, _, _, _ => h.elim
  | f + 1, n, p, gs, xs, pre, W, hT, hxs, hJ, hN => by
    have ih := fun (n p : Nat) (gs : List Nat) (xs pre : List α) (W : World) => tell_in bl F hd hfn hro l n₀ N J Jx hY f n p gs xs pre W
    obtain ⟨ks, ao, cap, rfl, hp, hml, hc, hr, hs⟩ := hT
    cases xs with
    | nil => cases hxs
    | cons x xs =>
      simp only [List.map_cons, List.cons.injEq] at hxs
      obtain ⟨hx, hxs⟩ := hxs
      subst hx
      simp only [List.length_cons] at hN
      have hdd : ∀ k : Nat, (F.depth.isSome = true → 1 ≤ k) := fun k h => by rw [hd] at h; cases h
      obtain ⟨fn, tmps, assign, body, hy, hR⟩ := hY (n - 1) pre x W hJ (by omega)
      refine callsIn_of_wp Tryd.func60 rfl hfn ?_ hro
      simp only [Tryd.ntmps60, List.size_toArray, List.length_cons, List.length_nil, Nat.reduceAdd, Nat.reduceSub, Array.replicate_succ, Array.replicate_zero, List.push_toArray, List.append_toArray, List.nil_append, List.cons_append]
      gi_wp2
      refine hR.mono ?_
      clear hR hy
      rintro e W1 (⟨rfl, hJ1, hk1⟩ | ⟨rfl, hx1⟩)
      · have hc1 := hk1 _ _ _ hp hc (fun _ _ h => by cases h)
        have hk64 : ks.length ≤ 9223372036854775807 := by unfold maxLen at hml; omega
        gi_wp2
        gi_loopw [16] (fun i wr => ∃ (k : Nat) (es bs : List α), k ≤ ks.length ∧ i = .int .i64 k ∧ xs = es ++ bs ∧ bs.map bl = ((ks.drop k).map (·.2)).flatten ∧ J (pre ++ [x] ++ es) wr ∧ KpS n₀ W wr) (fun i _ => ks.length - (intOf i).toNat)
        case atStart => exact ⟨0, [], xs, Nat.zero_le _, rfl, rfl, by simpa using hxs, by simpa using hJ1, hk1⟩
        case round =>
          obtain ⟨k, es, bs, hk, rfl, hab, hbs, hJ2, hk2⟩ := hrel
          by_cases hlt : k < ks.length
          · rcases hr with hr | ⟨q, rfl, hq, hr⟩
            · rw [hr] at hlt; simp at hlt
            have hck := hk2 _ _ _ hq (hr k hlt) (fun _ _ h => by cases h)
            have hsk := (hs _ (List.getElem_mem hlt)).kept hk2
            rw [List.drop_eq_getElem_cons hlt, List.map_cons, List.flatten_cons] at hbs
            obtain ⟨b1, b2, rfl, hb1, hb2⟩ := List.map_eq_append_iff.1 hbs
            have HI := hide (ih (n - 1) _ _ b1 (pre ++ [x] ++ es) wr hsk hb1 hJ2 (by rw [hab] at hN; simp at hN ⊢; omega))
            have HAB := hide hab
            have HB2 := hide hb2
            clear ih hY hs hr hab hbs hb1 hb2 hxs hN hJ hJ1 hJ2 hsk
            gi_wp2_with ((try refine ⟨hdd _, ?_⟩); gi_at_call 60; refine (unhide HI).mono ?_; clear HI; rintro e W3 (⟨rfl, hJ3, hk3⟩ | ⟨rfl, q', hq', hx3⟩))
            · go_roundw
              case rel => exact ⟨k + 1, es ++ b1, b2, by omega, by go_num, by rw [unhide HAB, List.append_assoc], unhide HB2, by simpa [List.append_assoc] using hJ3, hk2.trans hk3⟩
              case measure => simp [intOf]; omega
            · go_ret
              obtain ⟨r, hr'⟩ := hq'
              exact .inr ⟨rfl, x :: (es ++ q'), ⟨r ++ b2, by rw [unhide HAB, ← hr']; simp⟩, by simpa [List.append_assoc] using hx3⟩
          · have e : k = ks.length := by omega
            subst e
            rw [List.drop_length] at hbs
            simp at hbs
            subst hbs
            have HAB := hide hab
            clear hab
            gi_wp2
            go_ret
            refine .inl ⟨rfl, ?_, hk2⟩
            rw [unhide HAB]
            simpa using hJ2
      · gi_wp2
        go_ret
        exact .inr ⟨rfl, [x], ⟨xs, rfl⟩, hx1⟩
set_option maxHeartbeats 1000000 in
theorem nodes1_in {α : Type} (bl : α → Nat) (F : Fence) (hd : F.depth = none) (n : Nat) (hf0 : F.fn 59) (hf1 : F.fn 60) (hro : F.round = none) (l Bt n₀ f p : Nat) (gs : List Nat) (xs : List α) (J Jx : List α → World → Prop)
    (hY : ∀ pre x W, J pre W → pre.length < xs.length → YieldAt F (n - 1) Tryd.prog l #[.pointer (some ⟨bl x, 0, none⟩)] W fun e W' =>
      (e = .returned (.bool true) ∧ J (pre ++ [x]) W' ∧ KpS n₀ W W') ∨ (e = .returned (.bool false) ∧ Jx (pre ++ [x]) W'))
    (W : World) (hBt : W.cell? ⟨Bt, 0, none⟩ = some (.pointer (some ⟨p, 0, none⟩))) (hT : Shp n₀ W f p gs) (hxs : xs.map bl = gs) (h0 : J [] W) :
    CallsIn F n Tryd.prog 59 #[.func (.yield l) #[] #[], .pointer (some ⟨Bt, 0, none⟩)] W fun e W' => (∃ v, e = .returned v) ∧
      ((∃ ys, ys = xs ∧ J ys W') ∨ (∃ pre, pre <+: xs ∧ Jx pre W')) := by
  have hdd : ∀ k : Nat, (F.depth.isSome = true → 1 ≤ k) := fun k h => by rw [hd] at h; cases h
  have hp := hide (tell_in bl F hd hf1 hro l n₀ xs.length J Jx (fun m pre x W hj hl => yield_anyDepth hd m (hY pre x W hj hl)) f (n - 1) p gs xs [] W hT hxs h0 (by simp))
  refine callsIn_of_wp Tryd.func59 rfl hf0 ?_ hro
  simp only [Tryd.ntmps59, List.size_toArray, List.length_cons, List.length_nil, Nat.reduceAdd, Nat.reduceSub, Array.replicate_succ, Array.replicate_zero, List.push_toArray, List.append_toArray, List.nil_append, List.cons_append]
  gi_wp2_with ((try refine ⟨hdd _, ?_⟩); gi_at_call 60; refine (unhide hp).mono ?_; clear hp; rintro e W1 (⟨rfl, hJ1, _⟩ | ⟨rfl, q, hq, hx⟩))
  · go_end0
    exact ⟨⟨_, rfl⟩, .inl ⟨_, rfl, by simpa using hJ1⟩⟩
  · go_end0
    exact ⟨⟨_, rfl⟩, .inr ⟨q, hq, by simpa using hx⟩⟩

set_option maxHeartbeats 1000000 in
theorem nodes_in (F : Fence) (n : Nat) (hfn : F.fn 41) (hro : F.round = none) (p0 : Option Addr) (w : World) :
    CallsIn F n Tryd.prog 41 #[.pointer p0] w fun e w' => e = .returned (.func (.func 59) #[] #[.pointer (some ⟨w.heap.size, 0, none⟩)]) ∧ w' = w.alloc (.cells #[.pointer p0] 44) := by
  refine callsIn_of_wp Tryd.func41 rfl hfn ?_ hro
  simp only [Tryd.ntmps41, List.size_toArray, List.length_cons, List.length_nil, Nat.reduceAdd, Nat.reduceSub, Array.replicate_succ, Array.replicate_zero, List.push_toArray, List.append_toArray, List.nil_append, List.cons_append]
  gi_wp2
  go_ret
  exact ⟨rfl, rfl⟩

theorem nodes_stops {α : Type} (bl : α → Nat) (F : Fence) (hd : F.depth = none) (n : Nat) (hf0 : F.fn 59) (hf1 : F.fn 60) (hro : F.round = none) (Bt n₀ f p : Nat) (gs : List Nat) (xs : List α) (w : World) (hBt : Bt < w.heap.size) (hn₀ : n₀ ≤ w.heap.size)
    (hc : w.cell? ⟨Bt, 0, none⟩ = some (.pointer (some ⟨p, 0, none⟩))) (hT : Shp n₀ w f p gs) (hxs : xs.map bl = gs) :
    SeqStopsK F n Tryd.prog 59 #[.pointer (some ⟨Bt, 0, none⟩)] (fun x : α => #[Value.pointer (some ⟨bl x, 0, none⟩)]) (KpS n₀) (fun ys => ys = xs) (fun pre => pre <+: xs) xs.length w := fun l J Jx W hW _ _ hY h0 =>
  nodes1_in bl F hd n hf0 hf1 hro l Bt n₀ f p gs xs J Jx hY W ((hW.cell (p := ⟨Bt, 0, none⟩) hBt).trans hc) (hT.below (hW.mono hn₀)) hxs h0

theorem kpsK_t {n₀ : Nat} {A B C : World} (h : KpS n₀ A B) (k : KpS n₀ B C) : KpS n₀ A C := h.trans k
theorem kpsK_b {n₀ : Nat} {w : World} (hn : n₀ ≤ w.heap.size) (W : World) (l : Nat) (o o' : Obj) (hl : w.heap.size ≤ l) (h : W.heap[l]? = some o) (h1 : o.isCells = false) (h2 : o.isWalk = false) : KpS n₀ W (W.putObj l o') := KpS.of_below (belowK_b hn W l o o' hl h h1 h2)
end Go.Proofs.YtjjpmlcaapedhaaDoor
