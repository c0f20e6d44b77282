import Derived.RangeFuncNested
import Derived.RangeFuncBound
import Derived.RangeFuncCalls
import Derived.RangeFuncLeaves
import Derived.RangeFuncBox
import Derived.Shelf.Abstract
import Derived.Shelf.RegionOpen
import Derived.WalkKit
import Derived.OwnWalkIn
import Derived.TacticsInMore
import Derived.LoopNIn
import Derived.LoopIn
import Derived.Test.YtkedckmpjedjoaaQW1Mem2Mem3W9
import Derived.Test.YtkedckmpjedjoaaQW15W16W2
import Derived.Test.YtkedckmpjedjoaaQPlainMemOpen
import Derived.Deep.AppendLies
/- Trees in memory: their shape, what keeps it; the walks of tell, nodes. -/
namespace Go.Proofs.Ytkedckmpjedjoaa
open Go.RowKit Go.Shelf
set_option linter.unusedVariables false
set_option linter.unusedSimpArgs false
attribute [local go_sem] Oper.semAt_some

/-- What a world keeps of another, but for ints: all that lies in the blocks of S. -/
def KpS (n₀ : Nat) (W W' : World) : Prop := ∀ b i v, b < n₀ → W.cell? ⟨b, i, none⟩ = some v → (∀ q z, v ≠ .int q z) → W'.cell? ⟨b, i, none⟩ = some v

theorem KpS.refl (n₀ : Nat) (W : World) : KpS n₀ W W := fun _ _ _ _ h _ => h
theorem KpS.trans {n₀ : Nat} {A B C : World} (h : KpS n₀ A B) (k : KpS n₀ B C) : KpS n₀ A C := fun b i v hb hc hv => k b i v hb (h b i v hb hc hv) hv
theorem KpS.of_below {n₀ : Nat} {A B : World} (h : Below n₀ A B) : KpS n₀ A B := fun b i v hb hc _ => (h.cell (p := ⟨b, i, none⟩) hb).trans hc

/-- From block p on lies a tree, no higher than f, all of it below n₀; its nodes' blocks, in the order of places, are gs. -/
def Shp (n₀ : Nat) (W : World) : Nat → Nat → List Nat → Prop
  | 0, _, _ => False
  | f + 1, p, gs => ∃ (ks : List (Nat × List Nat)) (ao : Option Addr) (cap : Nat), gs = p :: (ks.map (·.2)).flatten ∧ p < n₀ ∧ ks.length ≤ maxLen ∧ W.cell? ⟨p, 3, none⟩ = some (.slice ao ks.length cap) ∧
      (ks = [] ∨ ∃ q, ao = some ⟨q, 0, none⟩ ∧ q < n₀ ∧ ∀ i, (h : i < ks.length) → W.cell? ⟨q, i, none⟩ = some (.pointer (some ⟨ks[i].1, 0, none⟩))) ∧ ∀ k ∈ ks, Shp n₀ W f k.1 k.2

theorem Shp.kept {n₀ : Nat} {W W' : World} (hk : KpS n₀ W W') : ∀ {f p : Nat} {gs : List Nat}, Shp n₀ W f p gs → Shp n₀ W' f p gs
  | f + 1, p, gs, ⟨ks, ao, cap, hg, hp, hm, hc, hr, hs⟩ => ⟨ks, ao, cap, hg, hp, hm, hk _ _ _ hp hc (fun _ _ h => by cases h), hr.imp_right fun ⟨q, e, hq, h⟩ => ⟨q, e, hq, fun i hi => hk _ _ _ hq (h i hi) (fun _ _ h => by cases h)⟩, fun k hm => (hs k hm).kept hk⟩

theorem Shp.below {n₀ : Nat} {W W' : World} (hk : Below n₀ W W') {f p : Nat} {gs : List Nat} (h : Shp n₀ W f p gs) : Shp n₀ W' f p gs := h.kept (KpS.of_below hk)

theorem room_of_none {F : Fence} (hd : F.depth = none) (k : Nat) : F.room k := fun d h => by rw [hd] at h; cases h
theorem round_anyDepth {F : Fence} (hd : F.depth = none) {m m' : Nat} {P : Program} {l : Nat} {f : FuncId} {tmps : Array Value} {assign body : Code} {w : World} {R : Ending → World → Prop}
    (h : RoundIn F m P l f tmps assign body w R) : RoundIn F m' P l f tmps assign body w R := ⟨h.1, fun c cs _ => h.2 c cs (room_of_none hd _)⟩
theorem yield_anyDepth {F : Fence} (hd : F.depth = none) {m : Nat} (m' : Nat) {P : Program} {l : Nat} {args : Array Value} {W : World} {R : Ending → World → Prop} (h : YieldAt F m P l args W R) : YieldAt F m' P l args W R := by
  obtain ⟨fn, tmps, assign, body, hy, hR⟩ := h
  exact ⟨fn, tmps, assign, body, hy, round_anyDepth hd hR⟩

theorem pre_of_append {α : Type} (a b : List α) : a <+: a ++ b := ⟨b, rfl⟩

set_option maxRecDepth 100000 in
set_option maxHeartbeats 2000000 in
theorem tell_in {α : Type} (bl : α → Nat) (F : Fence) (hd : F.depth = none) (hfn : F.fn 184) (hro : F.round = none) (l n₀ N : Nat) (J Jx : List α → World → Prop)
    (hY : ∀ m pre x W, J pre W → pre.length < N → YieldAt F m Try.prog l #[.pointer (some ⟨bl x, 0, none⟩)] W fun e W' =>
      (e = .returned (.bool true) ∧ J (pre ++ [x]) W' ∧ KpS n₀ W W') ∨ (e = .returned (.bool false) ∧ Jx (pre ++ [x]) W')) :
    ∀ (f n p : Nat) (gs : List Nat) (xs pre : List α) (W : World), Shp n₀ W f p gs → xs.map bl = gs → J pre W → pre.length + xs.length ≤ N →
      CallsIn F n Try.prog 184 #[.pointer (some ⟨p, 0, none⟩), .func (.yield l) #[] #[]] W fun e W' =>
        (e = .returned (.bool true) ∧ J (pre ++ xs) W' ∧ KpS n₀ W W') ∨ (e = .returned (.bool false) ∧ ∃ q, q <+: xs ∧ Jx (pre ++ q) W')
  | 0, _, _, _, _, _, _, h, _, _, _ => h.elim
  | f + 1, n, p, gs, xs, pre, W, hT, hxs, hJ, hN => by
    have ih := fun (n p : Nat) (gs : List Nat) (xs pre : List α) (W : World) => tell_in bl F hd hfn hro l n₀ N J Jx hY f n p gs xs pre W
    obtain ⟨ks, ao, cap, rfl, hp, hml, hc, hr, hs⟩ := hT
    cases xs with
    | nil => cases hxs
    | cons x xs =>
      simp only [List.map_cons, List.cons.injEq] at hxs
      obtain ⟨hx, hxs⟩ := hxs
      subst hx
      simp only [List.length_cons] at hN
      have hdd : ∀ k : Nat, (F.depth.isSome = true → 1 ≤ k) := fun k h => by rw [hd] at h; cases h
      obtain ⟨fn, tmps, assign, body, hy, hR⟩ := hY (n - 1) pre x W hJ (by omega)
      refine callsIn_of_wp Try.func184 rfl hfn ?_ hro
      simp only [Try.ntmps184, List.size_toArray, List.length_cons, List.length_nil, Nat.reduceAdd, Nat.reduceSub, Array.replicate_succ, Array.replicate_zero, List.push_toArray, List.append_toArray, List.nil_append, List.cons_append]
      gi_wp2
      refine hR.mono ?_
      clear hR hy
      rintro e W1 (⟨rfl, hJ1, hk1⟩ | ⟨rfl, hx1⟩)
      · have hc1 := hk1 _ _ _ hp hc (fun _ _ h => by cases h)
        have hk64 : ks.length ≤ 9223372036854775807 := by unfold maxLen at hml; omega
        gi_wp2
        gi_loopw [16] (fun i wr => ∃ (k : Nat) (es bs : List α), k ≤ ks.length ∧ i = .int .i64 k ∧ xs = es ++ bs ∧ bs.map bl = ((ks.drop k).map (·.2)).flatten ∧ J (pre ++ [x] ++ es) wr ∧ KpS n₀ W wr) (fun i _ => ks.length - (intOf i).toNat)
        case atStart => exact ⟨0, [], xs, Nat.zero_le _, rfl, rfl, by simpa using hxs, by simpa using hJ1, hk1⟩
        case round =>
          obtain ⟨k, es, bs, hk, rfl, hab, hbs, hJ2, hk2⟩ := hrel
          by_cases hlt : k < ks.length
          · rcases hr with hr | ⟨q, rfl, hq, hr⟩
            · rw [hr] at hlt; simp at hlt
            have hck := hk2 _ _ _ hq (hr k hlt) (fun _ _ h => by cases h)
            have hsk := (hs _ (List.getElem_mem hlt)).kept hk2
            rw [List.drop_eq_getElem_cons hlt, List.map_cons, List.flatten_cons] at hbs
            obtain ⟨b1, b2, rfl, hb1, hb2⟩ := List.map_eq_append_iff.1 hbs
            have HI := hide (ih (n - 1) _ _ b1 (pre ++ [x] ++ es) wr hsk hb1 hJ2 (by rw [hab] at hN; simp at hN ⊢; omega))
            have HAB := hide hab
            have HB2 := hide hb2
            clear ih hY hs hr hab hbs hb1 hb2 hxs hN hJ hJ1 hJ2 hsk
            gi_wp2_with ((try refine ⟨hdd _, ?_⟩); gi_at_call 184; refine (unhide HI).mono ?_; clear HI; rintro e W3 (⟨rfl, hJ3, hk3⟩ | ⟨rfl, q', hq', hx3⟩))
            · go_roundw
              case rel => exact ⟨k + 1, es ++ b1, b2, by omega, by go_num, by rw [unhide HAB, List.append_assoc], unhide HB2, by simpa [List.append_assoc] using hJ3, hk2.trans hk3⟩
              case measure => simp [intOf]; omega
            · go_ret
              obtain ⟨r, hr'⟩ := hq'
              exact .inr ⟨rfl, x :: (es ++ q'), ⟨r ++ b2, by rw [unhide HAB, ← hr']; simp⟩, by simpa [List.append_assoc] using hx3⟩
          · have e : k = ks.length := by omega
            subst e
            rw [List.drop_length] at hbs
            simp at hbs
            subst hbs
            have HAB := hide hab
            clear hab
            gi_wp2
            go_ret
            refine .inl ⟨rfl, ?_, hk2⟩
            rw [unhide HAB]
            simpa using hJ2
      · gi_wp2
        go_ret
        exact .inr ⟨rfl, [x], ⟨xs, rfl⟩, hx1⟩
set_option maxHeartbeats 1000000 in
theorem nodes1_in {α : Type} (bl : α → Nat) (F : Fence) (hd : F.depth = none) (n : Nat) (hf0 : F.fn 183) (hf1 : F.fn 184) (hro : F.round = none) (l Bt n₀ f p : Nat) (gs : List Nat) (xs : List α) (J Jx : List α → World → Prop)
    (hY : ∀ pre x W, J pre W → pre.length < xs.length → YieldAt F (n - 1) Try.prog l #[.pointer (some ⟨bl x, 0, none⟩)] W fun e W' =>
      (e = .returned (.bool true) ∧ J (pre ++ [x]) W' ∧ KpS n₀ W W') ∨ (e = .returned (.bool false) ∧ Jx (pre ++ [x]) W'))
    (W : World) (hBt : W.cell? ⟨Bt, 0, none⟩ = some (.pointer (some ⟨p, 0, none⟩))) (hT : Shp n₀ W f p gs) (hxs : xs.map bl = gs) (h0 : J [] W) :
    CallsIn F n Try.prog 183 #[.func (.yield l) #[] #[], .pointer (some ⟨Bt, 0, none⟩)] W fun e W' => (∃ v, e = .returned v) ∧
      ((∃ ys, ys = xs ∧ J ys W') ∨ (∃ pre, pre <+: xs ∧ Jx pre W')) := by
  have hdd : ∀ k : Nat, (F.depth.isSome = true → 1 ≤ k) := fun k h => by rw [hd] at h; cases h
  have hp := hide (tell_in bl F hd hf1 hro l n₀ xs.length J Jx (fun m pre x W hj hl => yield_anyDepth hd m (hY pre x W hj hl)) f (n - 1) p gs xs [] W hT hxs h0 (by simp))
  refine callsIn_of_wp Try.func183 rfl hf0 ?_ hro
  simp only [Try.ntmps183, List.size_toArray, List.length_cons, List.length_nil, Nat.reduceAdd, Nat.reduceSub, Array.replicate_succ, Array.replicate_zero, List.push_toArray, List.append_toArray, List.nil_append, List.cons_append]
  gi_wp2_with ((try refine ⟨hdd _, ?_⟩); gi_at_call 184; refine (unhide hp).mono ?_; clear hp; rintro e W1 (⟨rfl, hJ1, _⟩ | ⟨rfl, q, hq, hx⟩))
  · go_end0
    exact ⟨⟨_, rfl⟩, .inl ⟨_, rfl, by simpa using hJ1⟩⟩
  · go_end0
    exact ⟨⟨_, rfl⟩, .inr ⟨q, hq, by simpa using hx⟩⟩

set_option maxHeartbeats 1000000 in
theorem nodes_in (F : Fence) (n : Nat) (hfn : F.fn 170) (hro : F.round = none) (p0 : Option Addr) (w : World) :
    CallsIn F n Try.prog 170 #[.pointer p0] w fun e w' => e = .returned (.func (.func 183) #[] #[.pointer (some ⟨w.heap.size, 0, none⟩)]) ∧ w' = w.alloc (.cells #[.pointer p0] 100) := by
  refine callsIn_of_wp Try.func170 rfl hfn ?_ hro
  simp only [Try.ntmps170, List.size_toArray, List.length_cons, List.length_nil, Nat.reduceAdd, Nat.reduceSub, Array.replicate_succ, Array.replicate_zero, List.push_toArray, List.append_toArray, List.nil_append, List.cons_append]
  gi_wp2
  go_ret
  exact ⟨rfl, rfl⟩

theorem nodes_stops {α : Type} (bl : α → Nat) (F : Fence) (hd : F.depth = none) (n : Nat) (hf0 : F.fn 183) (hf1 : F.fn 184) (hro : F.round = none) (Bt n₀ f p : Nat) (gs : List Nat) (xs : List α) (w : World) (hBt : Bt < w.heap.size) (hn₀ : n₀ ≤ w.heap.size)
    (hc : w.cell? ⟨Bt, 0, none⟩ = some (.pointer (some ⟨p, 0, none⟩))) (hT : Shp n₀ w f p gs) (hxs : xs.map bl = gs) :
    SeqStopsK F n Try.prog 183 #[.pointer (some ⟨Bt, 0, none⟩)] (fun x : α => #[Value.pointer (some ⟨bl x, 0, none⟩)]) (KpS n₀) (fun ys => ys = xs) (fun pre => pre <+: xs) xs.length w := fun l J Jx W hW _ _ hY h0 =>
  nodes1_in bl F hd n hf0 hf1 hro l Bt n₀ f p gs xs J Jx hY W ((hW.cell (p := ⟨Bt, 0, none⟩) hBt).trans hc) (hT.below (hW.mono hn₀)) hxs h0

theorem kpsK_t {n₀ : Nat} {A B C : World} (h : KpS n₀ A B) (k : KpS n₀ B C) : KpS n₀ A C := h.trans k
theorem kpsK_b {n₀ : Nat} {w : World} (hn : n₀ ≤ w.heap.size) (W : World) (l : Nat) (o o' : Obj) (hl : w.heap.size ≤ l) (h : W.heap[l]? = some o) (h1 : o.isCells = false) (h2 : o.isWalk = false) : KpS n₀ W (W.putObj l o') := KpS.of_below (belowK_b hn W l o o' hl h h1 h2)
end Go.Proofs.Ytkedckmpjedjoaa

/- The plain mathematics of terms as trees: a place, and as many terms behind it as it has arguments. -/
namespace Go.Proofs.Ytkedckmpjedjoaa
set_option linter.unusedSimpArgs false
set_option linter.unusedVariables false

/-- Places are one tree, no higher than f. -/
def Tm : Nat → List C → Prop
  | 0, _ => False
  | f + 1, t => ∃ (c : C) (ks : List (List C)), t = c :: ks.flatten ∧ (ks.length : Int) = ari c ∧ ∀ k ∈ ks, Tm f k

theorem Tm.mono : ∀ {f g : Nat} {t : List C}, Tm f t → f ≤ g → Tm g t
  | f + 1, g + 1, t, ⟨c, ks, e, hl, hk⟩, h => ⟨c, ks, e, hl, fun k hm => (hk k hm).mono (by omega)⟩

theorem Tm.pos : ∀ {f : Nat} {t : List C}, Tm f t → 1 ≤ t.length
  | f + 1, t, ⟨c, ks, e, hl, hk⟩ => by rw [e]; simp

theorem ends_trees : ∀ (t : List C) (m : Nat) (j : Nat), (∀ c ∈ t, 0 ≤ ari c) → ends m t = some j → ∃ ks : List (List C), ks.length = m ∧ ks.flatten = t.take j ∧ ∀ k ∈ ks, Tm t.length k
  | [], m, j, _, h => by
      by_cases hm : (m : Int) ≤ 0
      · exact ⟨[], by simp; omega, by simp, by simp⟩
      · simp [ends, hm] at h; omega
  | c :: r, m, j, ha, h => by
      by_cases hm : (m : Int) ≤ 0
      · have hm0 : m = 0 := by omega
        subst hm0
        simp [ends] at h
        exact ⟨[], by simp, by simp [← h], by simp⟩
      · simp only [ends, if_neg hm, Option.map_eq_some_iff] at h
        obtain ⟨j', hj, rfl⟩ := h
        have hc := ha c (by simp)
        obtain ⟨a, hae⟩ : ∃ a : Nat, (a : Int) = ari c := ⟨(ari c).toNat, by omega⟩
        rw [← hae, show (m : Int) - 1 + a = ((m - 1 + a : Nat) : Int) by omega] at hj
        obtain ⟨ks, hl, hf, hk⟩ := ends_trees r (m - 1 + a) j' (fun c' h' => ha c' (by simp [h'])) hj
        refine ⟨(c :: (ks.take a).flatten) :: ks.drop a, by simp; omega, ?_, ?_⟩
        · rw [List.flatten_cons, List.take_succ_cons, ← hf, List.cons_append, ← List.flatten_append, List.take_append_drop]
        · intro k hkm
          rcases List.mem_cons.1 hkm with rfl | hkm
          · exact ⟨c, ks.take a, rfl, by rw [List.length_take, ← hae]; omega, fun k' h' => hk k' (List.mem_of_mem_take h')⟩
          · exact (hk k (List.mem_of_mem_drop hkm)).mono (by simp)

theorem trm_tree {t : List C} (h : trm t = true) : Tm t.length t := by
  obtain ⟨h1, h2, h3, h4⟩ := (trm_iff t).1 h
  obtain ⟨ks, hl, hf, hk⟩ := ends_trees t 1 t.length (fun c hc => (ari_ok (h3 c hc)).1) h4
  match ks, hl with
  | [k], _ =>
    simp at hf
    subst hf
    exact hk k (by simp)

theorem ends_of_tree : ∀ (f : Nat) (t : List C), Tm f t → ∀ (m : Nat) (r : List C), ends (m + 1) (t ++ r) = (ends m r).map (· + t.length)
  | f + 1, t, ⟨c, ks, e, hl, hk⟩, m, r => by
      have all : ∀ (ks : List (List C)), (∀ k ∈ ks, Tm f k) → ∀ (m : Nat), ends ((m + ks.length : Nat) : Int) (ks.flatten ++ r) = (ends m r).map (· + ks.flatten.length) := by
        intro ks
        induction ks with
        | nil => intro _ m; simp
        | cons k ks ih =>
          intro hk m
          have e1 := ends_of_tree f k (hk k (by simp)) (m + ks.length) (ks.flatten ++ r)
          have e2 := ih (fun k' h' => hk k' (by simp [h'])) m
          rw [List.flatten_cons, List.append_assoc, List.length_cons, show ((m + (ks.length + 1) : Nat) : Int) = ((m + ks.length : Nat) : Int) + 1 by omega, e1, e2, Option.map_map, List.length_append]
          congr 1
          funext x
          simp; omega
      subst e
      rw [List.cons_append]
      simp only [ends]
      rw [if_neg (by omega), show (m : Int) + 1 - 1 + ari c = ((m + ks.length : Nat) : Int) by omega, all ks hk m, Option.map_map]
      congr 1

theorem tree_trm {f : Nat} {t : List C} (h : Tm f t) (hl : t.length ≤ 40) (ho : ∀ c ∈ t, okC c = true) : trm t = true := by
  refine (trm_iff t).2 ⟨h.pos, hl, ho, ?_⟩
  have := ends_of_tree f t h 0 []
  simp [ends] at this
  exact this

/-- Terms one behind another are told apart by where they end. -/
theorem trees_one : ∀ {f : Nat} (ks ks' : List (List C)), (∀ k ∈ ks, Tm f k) → (∀ k ∈ ks', Tm f k) → ks.flatten = ks'.flatten → ks = ks'
  | f, [], [], _, _, _ => rfl
  | f, [], k :: ks', _, h, e => by
      have h1 := (h k (by simp)).pos
      have h2 := congrArg List.length e
      rw [List.flatten_cons, List.length_append] at h2
      simp only [List.flatten_nil, List.length_nil] at h2
      omega
  | f, k :: ks, [], h, _, e => by
      have h1 := (h k (by simp)).pos
      have h2 := congrArg List.length e
      rw [List.flatten_cons, List.length_append] at h2
      simp only [List.flatten_nil, List.length_nil] at h2
      omega
  | f, k :: ks, k' :: ks', h, h', e => by
      have e1 := ends_of_tree f k (h k (by simp)) 0 ks.flatten
      have e2 := ends_of_tree f k' (h' k' (by simp)) 0 ks'.flatten
      rw [List.flatten_cons, List.flatten_cons] at e
      rw [e, e2] at e1
      have z : ∀ r, ends (0 : Nat) r = some 0 := fun r => by cases r <;> simp [ends]
      rw [z, z] at e1
      simp at e1
      obtain ⟨rfl, e3⟩ := List.append_inj e e1.symm
      rw [trees_one ks ks' (fun q hq => h q (by simp [hq])) (fun q hq => h' q (by simp [hq])) e3]
end Go.Proofs.Ytkedckmpjedjoaa

/- The walk of list: the places of a tree in new memory. -/
namespace Go.Proofs.Ytkedckmpjedjoaa
open Go.RowKit Go.Shelf
set_option linter.unusedVariables false
set_option linter.unusedSimpArgs false
attribute [local go_sem] Oper.semAt_some
attribute [-go_sem] Go.Builtin.append_

/-- At a node's block lies that place. -/
def Held (n₀ : Nat) (w : World) (x : Nat × C) : Prop := x.1 < n₀ ∧ w.cell? ⟨x.1, 0, none⟩ = some (.int .i64 x.2.k) ∧ w.cell? ⟨x.1, 1, none⟩ = some (.int .i64 x.2.n) ∧ w.cell? ⟨x.1, 2, none⟩ = some (.string x.2.s)

theorem Held.below {n₀ : Nat} {w w' : World} {x : Nat × C} (h : Held n₀ w x) (hb : Below n₀ w w') : Held n₀ w' x :=
  ⟨h.1, (hb.cell (p := ⟨x.1, 0, none⟩) h.1).trans h.2.1, (hb.cell (p := ⟨x.1, 1, none⟩) h.1).trans h.2.2.1, (hb.cell (p := ⟨x.1, 2, none⟩) h.1).trans h.2.2.2⟩

theorem lift_sub {α : Type} {P : α → Prop} : ∀ (z : List α), (∀ x ∈ z, P x) → ∃ xs : List {x : α // P x}, xs.map (·.1) = z
  | [], _ => ⟨[], rfl⟩
  | x :: z, h => by
      obtain ⟨xs, e⟩ := lift_sub z (fun y hy => h y (by simp [hy]))
      exact ⟨⟨x, h x (by simp)⟩ :: xs, by simp [e]⟩

/-- What list is of places. -/
def listed (t : List C) : List C := if trm t then t else []

set_option maxRecDepth 100000 in
set_option maxHeartbeats 2000000 in
theorem list_any (f p : Nat) (z : List (Nat × C)) (t : List C) (ht : Hid (z.map (·.2) = t)) (w : World) (hS : Shp w.heap.size w f p (z.map (·.1))) (hH : ∀ x ∈ z, Held w.heap.size w x) (hlen : z.length ≤ 1048576) (hF : Fit t) :
    Calls Try.prog 148 #[.pointer (some ⟨p, 0, none⟩)] w fun e w' => ∃ v, e = .returned v ∧ OwnC w' w.heap.size v (listed t) ∧ Below w.heap.size w w' := by
  obtain ⟨xs, hxs⟩ := lift_sub z hH
  obtain ⟨i0, hi, hz0, hz1, hz2⟩ := info_parts Try.infoCell
  refine (callsIn_wide (n := 5)).1 ?_
  refine callsIn_of_wp_marks Try.func148 rfl trivial ?_ rfl
  simp only [Try.ntmps148, List.size_toArray, List.length_cons, List.length_nil, Nat.reduceAdd, Nat.reduceSub, Array.replicate_succ, Array.replicate_zero, List.push_toArray, List.append_toArray, List.nil_append, List.cons_append]
  gi_wp2_with (refine ⟨trivial, ?_⟩; gi_at_call 170; refine (nodes_in Fence.wide _ trivial rfl _ _).mono ?_; rintro e w' ⟨rfl, rfl⟩)
  have bO := Boxed.new w 41 (.slice none 0 0)
  have bN := Boxed.new (w.alloc (.cells #[.slice none 0 0] 41)) 100 (.pointer (some ⟨p, 0, none⟩))
  rw [World.size_alloc] at bN
  have hB0 : Below w.heap.size w ((w.alloc (.cells #[.slice none 0 0] 41)).alloc (.cells #[.pointer (some ⟨p, 0, none⟩)] 100)) := ((Below.refl _ w).alloc (Nat.le_refl _) _).alloc (by simp) _
  have hxl : xs.length ≤ 1048576 := by rw [← hxs] at hlen; simpa using hlen
  refine wpIn_rangeFunc_ownG rfl (by omega) (gf := 183) (lb := #[.pointer (some ⟨w.heap.size + 1, 0, none⟩)]) rfl trivial (enters_of Try.func183 (by kernel_rfl) rfl)
    (nodes_stops (fun x : {x : Nat × C // Held w.heap.size w x} => x.1.1) Fence.wide rfl _ trivial trivial rfl (w.heap.size + 1) w.heap.size f p _ xs _ (by simp) (by simp; omega) bN.cell (hS.below hB0) (by rw [← hxs]; simp)) kpsK_t (kpsK_b (by simp; omega)) (Below.refl _ _) (fun _ => rfl)
    (fun pre W => (∃ v, Boxed W w.heap.size 41 v ∧ W.ownsRow w.heap.size 98 3 v pre.length (flat (pre.map (·.1.2))) ∧ True) ∧ Below w.heap.size w W)
    (fun _ _ _ => False)
    (OwnFrom.and (Own.from (holdsRow_own w.heap.size w.heap.size 41 98 3 (fun pre : List {x : Nat × C // Held w.heap.size w x} => pre.length) (fun pre => flat (pre.map (·.1.2))) (fun pre v => True)) _) (ownFrom_below (Nat.le_refl _) (by simp; omega)))
    (fun _ _ _ _ _ hs _ _ => hs)
    ⟨⟨_, bO.alloc _, World.ownsRow_nil _ _ _ _, trivial⟩, hB0⟩
    (fun x => { tmps := #[.pointer (some ⟨p, 0, none⟩), undef, .slice none 0 0, .pointer (some ⟨w.heap.size, 0, none⟩), .pointer (some ⟨x.1.1, 0, none⟩), .pointer (some ⟨p, 0, none⟩), .func (.func 183) #[] #[.pointer (some ⟨w.heap.size + 1, 0, none⟩)], .pointer (some ⟨x.1.1, 0, none⟩), undef, undef, undef, undef, undef, undef, undef, undef, undef, undef, undef], defers := [] }) ?assign ?body ?done ?stop
  case assign =>
    intro l x W K hK
    gi_wp2
    exact hK
  case body =>
    rintro l pre x W ⟨⟨v, hv, hrow, _⟩, hB⟩ hlt
    have hc := hv.cell
    obtain ⟨⟨g, c⟩, hx⟩ := x
    obtain ⟨_, h0, h1, h2⟩ := hx.below hB
    dsimp only at h0 h1 h2
    have hmx : Try.prog.follows .mixedOrders = true := by kernel_rfl
    obtain ⟨g', cap', w1, hr, hown', hgrow, hat, hgl⟩ := run_append_lies (P := Try.prog) (W.drew.alloc (.cells #[.int .i64 c.k, .int .i64 c.n, .string c.s] 98)) 41 41 w.heap.size 98 i0 _ 3 32 Try.underlying41 hi hz0 hz1 hz2 rfl (by decide) v pre.length _ (World.ownsRow.alloc (World.ownsRow.drew hrow) _) ⟨W.heap.size, 0, none⟩ 1 1 [.int .i64 c.k, .int .i64 c.n, .string c.s] rfl (cell_three_new W.drew _ _ _ _) (by simp [Value.oneCell']) (by omega) (by unfold maxLen; omega) (by omega) (by have := hB.size; simp; omega) _ rfl
    have hr' : Sem.run Try.prog (Builtin.append_ #[41, 41] 41 #[v, .slice (some ⟨W.heap.size, 0, none⟩) 1 1]) (W.alloc (.cells #[.int .i64 c.k, .int .i64 c.n, .string c.s] 98)).drew = .ok (.slice (some ⟨g', 0, none⟩) (pre.length + 1) cap') w1 := hr
    clear hr
    obtain ⟨hv1, hv2, hr2, hk2, hb2⟩ := Boxed.appended (W := W.drew) (show Boxed W.drew _ _ v from hv) (by decide) (World.ownsRow.drew hrow) hB.size (Nat.le_refl _) hown' hgrow
    have hc1 := hv1.cell
    have hf1 := hv1.frozen
    have hlt0 := hv.lt
    have hcA : (W.alloc (.cells #[.int .i64 c.k, .int .i64 c.n, .string c.s] 98)).cell? ⟨w.heap.size, 0, none⟩ = some v := (hv.alloc _).cell
    have FIN : KeepsFrom ((w.alloc (.cells #[.slice none 0 0] 41)).alloc (.cells #[.pointer (some ⟨p, 0, none⟩)] 100)).heap.size W (w1.setCell ⟨w.heap.size, 0, none⟩ (.slice (some ⟨g', 0, none⟩) (pre.length + 1) cap')) ∧ KpS w.heap.size W (w1.setCell ⟨w.heap.size, 0, none⟩ (.slice (some ⟨g', 0, none⟩) (pre.length + 1) cap')) ∧
        ((∃ v, Boxed (w1.setCell ⟨w.heap.size, 0, none⟩ (.slice (some ⟨g', 0, none⟩) (pre.length + 1) cap')) w.heap.size 41 v ∧ (w1.setCell ⟨w.heap.size, 0, none⟩ (.slice (some ⟨g', 0, none⟩) (pre.length + 1) cap')).ownsRow w.heap.size 98 3 v (pre ++ [(⟨(g, c), hx⟩ : {x : Nat × C // Held w.heap.size w x})]).length (flat ((pre ++ [(⟨(g, c), hx⟩ : {x : Nat × C // Held w.heap.size w x})]).map (·.1.2))) ∧ True) ∧ Below w.heap.size w (w1.setCell ⟨w.heap.size, 0, none⟩ (.slice (some ⟨g', 0, none⟩) (pre.length + 1) cap'))) :=
      ⟨((KeepsOthers.drew W).trans hk2).from _, KpS.of_below (((Below.refl _ W).drew).trans hb2), ⟨_, hv2, by rw [List.length_append, List.map_append, flat_append]; exact hr2, trivial⟩, hB.trans (((Below.refl _ W).drew).trans hb2)⟩
    have HFIN := hide FIN
    clear FIN
    gi_wp2
    gi_region_with_o (fail)
    all_goals gi_wp2
    all_goals exact unhide HFIN
  case done =>
    rintro D ys W hD rfl ⟨⟨v, hv, hrow, _⟩, hB⟩ hK
    have hc := hv.cell
    have hO : OwnC W w.heap.size v t := by unfold OwnC; rw [← unhide ht, ← hxs, List.map_map]; simp only [List.length_map]; exact hrow
    have htl : t.length ≤ 1048576 := by rw [← unhide ht, List.length_map]; exact hlen
    clear hrow hxs hS hH hlen hxl bO bN
    obtain ⟨ao, cap, rfl, hR⟩ := hO.shape
    have H := hide (TrmOk_any ao cap t W (by simp [maxLen]; omega) hR hF)
    have HO := hide hO
    clear hO
    have hDl : D < W.heap.size := (Array.getElem?_eq_some_iff.1 hK).1
    have hbl := hv.lt
    cases hok : trm t with
    | false =>
      rw [hok] at H
      gi_wp2_with (refine ⟨trivial, ?_⟩; gi_at_call 82; refine (callsIn_wide.2 (unhide H)).mono ?_; rintro e w' ⟨rfl, hb1⟩)
      refine ⟨by simp, .inl ⟨_, _, rfl, run_takeDeferred ((hb1.block D hDl).trans hK), ?_⟩⟩
      refine ⟨_, results_tmp rfl _ _ _, _, rfl, ?_, (bstep hB hb1).trans (belowK_b (w := w) (Nat.le_refl _) _ D _ _ (by simp at hD; omega) ((hb1.block D hDl).trans hK) rfl rfl)⟩
      unfold listed
      rw [hok]
      exact World.ownsRow_nil _ _ _ _
    | true =>
      rw [hok] at H
      gi_wp2_with (refine ⟨trivial, ?_⟩; gi_at_call 82; refine (callsIn_wide.2 (unhide H)).mono ?_; rintro e w' ⟨rfl, hb1⟩; have hc' := (hb1.cell (p := ⟨w.heap.size, 0, none⟩) hbl).trans hc)
      refine ⟨by simp, .inl ⟨_, _, rfl, run_takeDeferred ((hb1.block D hDl).trans hK), ?_⟩⟩
      refine ⟨_, results_tmp rfl _ _ _, _, rfl, ?_, (bstep hB hb1).trans (belowK_b (w := w) (Nat.le_refl _) _ D _ _ (by simp at hD; omega) ((hb1.block D hDl).trans hK) rfl rfl)⟩
      unfold listed
      rw [hok]
      exact ownsRow_putObj (OwnC.below (unhide HO) hb1) _ ((hb1.block D hDl).trans hK) rfl
  case stop =>
    rintro D c pre W _ _ h _
    exact h.elim
end Go.Proofs.Ytkedckmpjedjoaa
