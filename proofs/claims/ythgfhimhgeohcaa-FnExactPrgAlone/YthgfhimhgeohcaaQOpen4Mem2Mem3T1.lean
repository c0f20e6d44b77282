import Derived.Test.YthgfhimhgeohcaaQPlainMemOpenW1
import Derived.Lib.SmallJoins
import Derived.Test.YthgfhimhgeohcaaQG2
import Derived.Laws.OwnMore
import Derived.RangeFuncNested
import Derived.RangeFuncBound
import Derived.RangeFuncCalls
import Derived.RangeFuncLeaves
import Derived.RangeFuncBox
import Derived.Shelf.Abstract
import Derived.Shelf.RegionOpen
import Derived.WalkKit
import Derived.OwnWalkIn
import Derived.TacticsInMore
import Derived.LoopNIn
import Derived.LoopIn
import Derived.Test.YthgfhimhgeohcaaQW2W3
/- Arguments of the laws, opened: a goal that came in (a struct of a number and three slices of places). -/
namespace Go.Proofs.Ythgfhimhgeohcaa
open Go.RowKit Go.Deep Go.ChangeShapes Go.WideShapes Go.Joins
set_option linter.unusedVariables false
set_option linter.unusedSimpArgs false

theorem Try.cellsGoal : Try.prog.cellsOf 171 = 4 := by kernel_rfl
theorem Try.cellsSl4 : Try.prog.cellsOf 36 = 1 := by kernel_rfl

set_option maxRecDepth 100000 in
/-- A slice of places that stands in a struct. -/
theorem open_slot {H : Type} {enc : TypeId × Value → H} {W : World} {v1 : Value} {n' : Nat} {y1 : DataW H × List MemPlace} (t1' : DataW.trod enc Try.prog W 0 (fun _ => true) true n' 36 [v1] = some y1) :
    ∃ (ao : Option Addr) (t : List C) (c : Nat), v1 = .slice ao t.length c ∧ t.length ≤ maxLen ∧ Row W ao t ∧ Fit t := by
  have sh : ∃ ao l c, v1 = .slice ao l c ∧ l ≤ c ∧ c ≤ maxLen := by
    rcases open_slice Try.underlying36 t1' with ⟨hcs, _⟩ | ⟨x, l, c, m, n, D, Pl, hcs, _, hl, hm, _⟩
    · simp at hcs; exact ⟨_, _, _, hcs, Nat.le_refl _, Nat.zero_le _⟩
    · simp at hcs; exact ⟨_, _, _, hcs, hl, hm⟩
  obtain ⟨ao, l1, c1, rfl, hl1, hc1⟩ := sh
  obtain ⟨t, rfl, hm, hR, hF, hw⟩ := open_cells (enc := enc) (d := y1.1) (p := y1.2) ⟨n', t1'⟩
  exact ⟨ao, t, c1, rfl, hm, hR, hF⟩

set_option maxRecDepth 100000 in
/-- A goal that came in leads to three rows of places. -/
theorem open_goal {H : Type} {enc : TypeId × Value → H} {W : World} {v : Value} {d : DataW H} {p : List MemPlace} (hv : ∃ cs, v = .agg cs ∧ cs.size = Try.prog.cellsOf 171)
    (h : DataW.Trod enc Try.prog W 0 (fun _ => true) true 171 v d p) :
    ∃ (k : Int) (xa ya za : Option Addr) (xc yc zc : Nat) (a b c : List C), v = .agg #[.int .i64 k, .slice xa a.length xc, .slice ya b.length yc, .slice za c.length zc] ∧ a.length ≤ maxLen ∧ b.length ≤ maxLen ∧ c.length ≤ maxLen ∧ Row W xa a ∧ Row W ya b ∧ Row W za c ∧ Fit a ∧ Fit b ∧ Fit c := by
  obtain ⟨cs, rfl, hs⟩ := hv
  rw [Try.cellsGoal] at hs
  obtain ⟨fuel, hf⟩ := h
  obtain ⟨y0, y1, y2, y3, n', _, _, t0, t1, t2, t3⟩ := trod_struct4 Try.underlying171 hf
  obtain ⟨l⟩ := cs
  match l, hs with
  | [v0, v1, v2, v3], _ =>
    simp only [Try.cellsInt, Try.cellsSl4, Value.cells] at t0 t1 t2 t3
    obtain ⟨z0, e0, _, w0⟩ := DataW.trod_int Try.underlying3 t0
    obtain ⟨xa, a, xc, rfl, ha, hA, fA⟩ := open_slot (enc := enc) (by simpa using t1)
    obtain ⟨ya, b, yc, rfl, hb, hB, fB⟩ := open_slot (enc := enc) (by simpa using t2)
    obtain ⟨za, c, zc, rfl, hc, hC, fC⟩ := open_slot (enc := enc) (by simpa using t3)
    simp at e0
    subst e0
    exact ⟨z0, xa, ya, za, xc, yc, zc, a, b, c, rfl, ha, hb, hc, hA, hB, hC, fA, fB, fC⟩
end Go.Proofs.Ythgfhimhgeohcaa

/- A row of places that a call itself has made: from 'ownsRow' to places and back. -/
namespace Go.Proofs.Ythgfhimhgeohcaa
open Go.RowKit
set_option linter.unusedVariables false
set_option linter.unusedSimpArgs false

def cellsOf (c : C) : List Value := [.int .i64 c.k, .int .i64 c.n, .string c.s]
def flat (t : List C) : List Value := t.flatMap cellsOf

theorem flat_nil : flat [] = [] := rfl
theorem flat_cons (c : C) (t : List C) : flat (c :: t) = .int .i64 c.k :: .int .i64 c.n :: .string c.s :: flat t := rfl
theorem flat_append (a b : List C) : flat (a ++ b) = flat a ++ flat b := by simp [flat]
theorem flat_length (t : List C) : (flat t).length = t.length * 3 := by
  induction t with
  | nil => rfl
  | cons c t ih => rw [flat_cons]; simp [ih]; omega

theorem flat_get : ∀ (t : List C) (i : Nat) (h : i < t.length), (flat t)[i * 3]? = some (.int .i64 t[i].k) ∧ (flat t)[i * 3 + 1]? = some (.int .i64 t[i].n) ∧ (flat t)[i * 3 + 2]? = some (.string t[i].s)
  | c :: t, 0, _ => ⟨rfl, rfl, rfl⟩
  | c :: t, i + 1, h => by
      have := flat_get t i (by simpa using h)
      rw [flat_cons, show (i + 1) * 3 = i * 3 + 3 by omega]
      simpa using this

theorem set3_take (xs : List Value) (k : Nat) (a b c : Value) (h : k * 3 + 3 ≤ xs.length) :
    (((xs.set (k * 3) a).set (k * 3 + 1) b).set (k * 3 + 2) c).take ((k + 1) * 3) = xs.take (k * 3) ++ [a, b, c] := by
  apply List.ext_getElem?
  intro i
  rw [List.getElem?_take]
  by_cases h1 : i < k * 3
  · rw [if_pos (by omega), List.getElem?_append_left (by simp; omega), List.getElem?_set_ne (by omega), List.getElem?_set_ne (by omega), List.getElem?_set_ne (by omega), List.getElem?_take, if_pos h1]
  · rw [List.getElem?_append_right (by simp; omega)]
    have hl : (xs.take (k * 3)).length = k * 3 := by simp; omega
    rw [hl]
    by_cases e0 : i = k * 3
    · subst e0; rw [if_pos (by omega), List.getElem?_set_ne (by omega), List.getElem?_set_ne (by omega), List.getElem?_set_self (by omega)]; simp
    by_cases e1 : i = k * 3 + 1
    · subst e1; rw [if_pos (by omega), List.getElem?_set_ne (by omega), List.getElem?_set_self (by simp; omega)]; simp [show k * 3 + 1 - k * 3 = 1 by omega]
    by_cases e2 : i = k * 3 + 2
    · subst e2; rw [if_pos (by omega), List.getElem?_set_self (by simp; omega)]; simp [show k * 3 + 2 - k * 3 = 2 by omega]
    · rw [if_neg (by omega), List.getElem?_eq_none (by simp; omega)]

/-- A value that is a row of the call's own leads to its places. -/
theorem owns_at {w : World} {base e g cap n : Nat} {t : List C} (h : w.ownsRow base e 3 (.slice (some ⟨g, 0, none⟩) n cap) n (flat t)) (hn : n = t.length) : At w g 0 t := fun i hi => by
  have f := flat_get t i hi
  have e0 := h.cellAt (i * 3) (by omega)
  have e1 := h.cellAt (i * 3 + 1) (by omega)
  have e2 := h.cellAt (i * 3 + 2) (by omega)
  rw [Nat.zero_add]
  exact ⟨e0.trans f.1, e1.trans f.2.1, e2.trans f.2.2⟩
end Go.Proofs.Ythgfhimhgeohcaa

/- Rows of numbers in memory; what is owned, and where it lies. -/
namespace Go.Proofs.Ythgfhimhgeohcaa
open Go.RowKit
set_option linter.unusedVariables false
set_option linter.unusedSimpArgs false

def AtI (w : World) (b off : Nat) (z : List Int) : Prop := ∀ i, (h : i < z.length) → w.cell? ⟨b, off + i, none⟩ = some (.int .i64 z[i])
def RowI (w : World) (ao : Option Addr) (z : List Int) : Prop := z = [] ∨ ∃ b off, ao = some ⟨b, off, none⟩ ∧ AtI w b off z

theorem AtI.below {w w' : World} {b off : Nat} {z : List Int} (h : AtI w b off z) (hb : Below w.heap.size w w') : AtI w' b off z := fun i hi =>
  (hb.cell (p := ⟨b, off + i, none⟩) (World.block_lt_of_cell? w ⟨b, _, none⟩ (h i hi))).trans (h i hi)
theorem RowI.below {w w' : World} {ao : Option Addr} {z : List Int} (h : RowI w ao z) (hb : Below w.heap.size w w') : RowI w' ao z := by
  rcases h with h | ⟨b, off, e, h⟩
  · exact .inl h
  · exact .inr ⟨b, off, e, h.below hb⟩

/-- The numbers as they lie. -/
def nums (z : List Int) : List Value := z.map (Value.int .i64)
theorem nums_length (z : List Int) : (nums z).length = z.length := by simp [nums]
theorem nums_get (z : List Int) (i : Nat) (h : i < z.length) : (nums z)[i]? = some (.int .i64 z[i]) := by simp [nums, h]

/-- A slice value v owns the places t. -/
def OwnC (w : World) (base : Nat) (v : Value) (t : List C) : Prop := w.ownsRow base 94 3 v t.length (flat t)
/-- A slice value v owns the numbers z. -/
def OwnI (w : World) (base : Nat) (v : Value) (z : List Int) : Prop := w.ownsRow base 3 1 v z.length (nums z)

theorem OwnC.shape {w : World} {base : Nat} {v : Value} {t : List C} (h : OwnC w base v t) : ∃ ao cap, v = .slice ao t.length cap ∧ Row w ao t := by
  have h' := h
  rcases h.2 with ⟨e, hn⟩ | ⟨g, cap, cur, e, _⟩
  · refine ⟨none, 0, ?_, .inl (List.length_eq_zero_iff.1 hn)⟩
    rw [e, hn]
  · subst e
    exact ⟨_, _, rfl, .inr ⟨g, 0, rfl, owns_at h' rfl⟩⟩

theorem ownsI_at {w : World} {base e g cap n : Nat} {z : List Int} (h : w.ownsRow base e 1 (.slice (some ⟨g, 0, none⟩) n cap) n (nums z)) (hn : n = z.length) : AtI w g 0 z := fun i hi => by
  have e0 := h.cellAt i (by omega)
  rw [Nat.zero_add]
  exact e0.trans (nums_get z i hi)

theorem OwnI.shape {w : World} {base : Nat} {v : Value} {z : List Int} (h : OwnI w base v z) : ∃ ao cap, v = .slice ao z.length cap ∧ RowI w ao z := by
  have h' := h
  rcases h.2 with ⟨e, hn⟩ | ⟨g, cap, cur, e, _⟩
  · refine ⟨none, 0, ?_, .inl (List.length_eq_zero_iff.1 hn)⟩
    rw [e, hn]
  · subst e
    exact ⟨_, _, rfl, .inr ⟨g, 0, rfl, ownsI_at h' rfl⟩⟩

theorem own_below {w w1 : World} {base e size n : Nat} {v : Value} {xs : List Value} (h : w.ownsRow base e size v n xs) (hb : Below w.heap.size w w1) : w1.ownsRow base e size v n xs := by
  refine h.kept (row := none) ⟨hb.os, hb.tape, hb.output, hb.size, fun j hj _ => hb.block j hj⟩ ?_
  cases v.ownBlock with
  | none => exact .inl rfl
  | some k => exact .inr (by simp)
theorem OwnC.below {w w1 : World} {base : Nat} {v : Value} {t : List C} (h : OwnC w base v t) (hb : Below w.heap.size w w1) : OwnC w1 base v t := own_below h hb
theorem OwnI.below {w w1 : World} {base : Nat} {v : Value} {z : List Int} (h : OwnI w base v z) (hb : Below w.heap.size w w1) : OwnI w1 base v z := own_below h hb

/-- What lies in another block is as it was. -/
theorem own_apart {w w1 : World} {base e size n : Nat} {v : Value} {xs : List Value} {row : Option Nat} (h : w.ownsRow base e size v n xs) (hg : w.grownBy w1 row) (hr : ∀ k, row = some k → k < base ∨ w.heap.size ≤ k) : w1.ownsRow base e size v n xs := by
  refine h.kept hg ?_
  cases hv : v.ownBlock with
  | none => exact .inl rfl
  | some k =>
    right
    intro e
    have := h.lt k hv
    have := hr k e.symm
    omega

theorem Row.apart {w w1 : World} {ao : Option Addr} {t : List C} {row : Option Nat} (h : Row w ao t) (hg : w.grownBy w1 row) (hr : ∀ a, ao = some a → some a.block ≠ row) : Row w1 ao t := by
  rcases h with h | ⟨b, off, e, h⟩
  · exact .inl h
  · refine .inr ⟨b, off, e, fun i hi => ?_⟩
    have hb : b < w.heap.size := World.block_lt_of_cell? w ⟨b, _, none⟩ (h i hi).1
    exact (h.kept (hg.block b hb (hr _ e))) i hi
end Go.Proofs.Ythgfhimhgeohcaa

/- Trees in memory: their shape, what keeps it; the walks of tell, nodes. -/
namespace Go.Proofs.Ythgfhimhgeohcaa
open Go.RowKit Go.Shelf
set_option linter.unusedVariables false
set_option linter.unusedSimpArgs false
attribute [local go_sem] Oper.semAt_some

/-- What a world keeps of another, but for ints: all that lies in the blocks of S. -/
def KpS (n₀ : Nat) (W W' : World) : Prop := ∀ b i v, b < n₀ → W.cell? ⟨b, i, none⟩ = some v → (∀ q z, v ≠ .int q z) → W'.cell? ⟨b, i, none⟩ = some v

theorem KpS.refl (n₀ : Nat) (W : World) : KpS n₀ W W := fun _ _ _ _ h _ => h
theorem KpS.trans {n₀ : Nat} {A B C : World} (h : KpS n₀ A B) (k : KpS n₀ B C) : KpS n₀ A C := fun b i v hb hc hv => k b i v hb (h b i v hb hc hv) hv
theorem KpS.of_below {n₀ : Nat} {A B : World} (h : Below n₀ A B) : KpS n₀ A B := fun b i v hb hc _ => (h.cell (p := ⟨b, i, none⟩) hb).trans hc

/-- From block p on lies a tree, no higher than f, all of it below n₀; its nodes' blocks, in the order of places, are gs. -/
def Shp (n₀ : Nat) (W : World) : Nat → Nat → List Nat → Prop
  | 0, _, _ => False
  | f + 1, p, gs => ∃ (ks : List (Nat × List Nat)) (ao : Option Addr) (cap : Nat), gs = p :: (ks.map (·.2)).flatten ∧ p < n₀ ∧ ks.length ≤ maxLen ∧ W.cell? ⟨p, 3, none⟩ = some (.slice ao ks.length cap) ∧
      (ks = [] ∨ ∃ q, ao = some ⟨q, 0, none⟩ ∧ q < n₀ ∧ ∀ i, (h : i < ks.length) → W.cell? ⟨q, i, none⟩ = some (.pointer (some ⟨ks[i].1, 0, none⟩))) ∧ ∀ k ∈ ks, Shp n₀ W f k.1 k.2

theorem Shp.kept {n₀ : Nat} {W W' : World} (hk : KpS n₀ W W') : ∀ {f p : Nat} {gs : List Nat}, Shp n₀ W f p gs → Shp n₀ W' f p gs
  | f + 1, p, gs, ⟨ks, ao, cap, hg, hp, hm, hc, hr, hs⟩ => ⟨ks, ao, cap, hg, hp, hm, hk _ _ _ hp hc (fun _ _ h => by cases h), hr.imp_right fun ⟨q, e, hq, h⟩ => ⟨q, e, hq, fun i hi => hk _ _ _ hq (h i hi) (fun _ _ h => by cases h)⟩, fun k hm => (hs k hm).kept hk⟩

theorem Shp.below {n₀ : Nat} {W W' : World} (hk : Below n₀ W W') {f p : Nat} {gs : List Nat} (h : Shp n₀ W f p gs) : Shp n₀ W' f p gs := h.kept (KpS.of_below hk)

theorem room_of_none {F : Fence} (hd : F.depth = none) (k : Nat) : F.room k := fun d h => by rw [hd] at h; cases h
theorem round_anyDepth {F : Fence} (hd : F.depth = none) {m m' : Nat} {P : Program} {l : Nat} {f : FuncId} {tmps : Array Value} {assign body : Code} {w : World} {R : Ending → World → Prop}
    (h : RoundIn F m P l f tmps assign body w R) : RoundIn F m' P l f tmps assign body w R := ⟨h.1, fun c cs _ => h.2 c cs (room_of_none hd _)⟩
theorem yield_anyDepth {F : Fence} (hd : F.depth = none) {m : Nat} (m' : Nat) {P : Program} {l : Nat} {args : Array Value} {W : World} {R : Ending → World → Prop} (h : YieldAt F m P l args W R) : YieldAt F m' P l args W R := by
  obtain ⟨fn, tmps, assign, body, hy, hR⟩ := h
  exact ⟨fn, tmps, assign, body, hy, round_anyDepth hd hR⟩

theorem pre_of_append {α : Type} (a b : List α) : a <+: a ++ b := ⟨b, rfl⟩

set_option maxRecDepth 100000 in
set_option maxHeartbeats 2000000 in
theorem tell_in {α : Type} (bl : α → Nat) (F : Fence) (hd : F.depth = none) (hfn : F.fn 163) (hro : F.round = none) (l n₀ N : Nat) (J Jx : List α → World → Prop)
    (hY : ∀ m pre x W, J pre W → pre.length < N → YieldAt F m Try.prog l #[.pointer (some ⟨bl x, 0, none⟩)] W fun e W' =>
      (e = .returned (.bool true) ∧ J (pre ++ [x]) W' ∧ KpS n₀ W W') ∨ (e = .returned (.bool false) ∧ Jx (pre ++ [x]) W')) :
    ∀ (f n p : Nat) (gs : List Nat) (xs pre : List α) (W : World), Shp n₀ W f p gs → xs.map bl = gs → J pre W → pre.length + xs.length ≤ N →
      CallsIn F n Try.prog 163 #[.pointer (some ⟨p, 0, none⟩), .func (.yield l) #[] #[]] W fun e W' =>
        (e = .returned (.bool true) ∧ J (pre ++ xs) W' ∧ KpS n₀ W W') ∨ (e = .returned (.bool false) ∧ ∃ q, q <+: xs ∧ Jx (pre ++ q) W')
  | 0, _, _, _, _, _, _, h, _, _, _ => h.elim
  | f + 1, n, p, gs, xs, pre, W, hT, hxs, hJ, hN => by
    have ih := fun (n p : Nat) (gs : List Nat) (xs pre : List α) (W : World) => tell_in bl F hd hfn hro l n₀ N J Jx hY f n p gs xs pre W
    obtain ⟨ks, ao, cap, rfl, hp, hml, hc, hr, hs⟩ := hT
    cases xs with
    | nil => cases hxs
    | cons x xs =>
      simp only [List.map_cons, List.cons.injEq] at hxs
      obtain ⟨hx, hxs⟩ := hxs
      subst hx
      simp only [List.length_cons] at hN
      have hdd : ∀ k : Nat, (F.depth.isSome = true → 1 ≤ k) := fun k h => by rw [hd] at h; cases h
      obtain ⟨fn, tmps, assign, body, hy, hR⟩ := hY (n - 1) pre x W hJ (by omega)
      refine callsIn_of_wp Try.func163 rfl hfn ?_ hro
      simp only [Try.ntmps163, List.size_toArray, List.length_cons, List.length_nil, Nat.reduceAdd, Nat.reduceSub, Array.replicate_succ, Array.replicate_zero, List.push_toArray, List.append_toArray, List.nil_append, List.cons_append]
      gi_wp2
      refine hR.mono ?_
      clear hR hy
      rintro e W1 (⟨rfl, hJ1, hk1⟩ | ⟨rfl, hx1⟩)
      · have hc1 := hk1 _ _ _ hp hc (fun _ _ h => by cases h)
        have hk64 : ks.length ≤ 9223372036854775807 := by unfold maxLen at hml; omega
        gi_wp2
        gi_loopw [16] (fun i wr => ∃ (k : Nat) (es bs : List α), k ≤ ks.length ∧ i = .int .i64 k ∧ xs = es ++ bs ∧ bs.map bl = ((ks.drop k).map (·.2)).flatten ∧ J (pre ++ [x] ++ es) wr ∧ KpS n₀ W wr) (fun i _ => ks.length - (intOf i).toNat)
        case atStart => exact ⟨0, [], xs, Nat.zero_le _, rfl, rfl, by simpa using hxs, by simpa using hJ1, hk1⟩
        case round =>
          obtain ⟨k, es, bs, hk, rfl, hab, hbs, hJ2, hk2⟩ := hrel
          by_cases hlt : k < ks.length
          · rcases hr with hr | ⟨q, rfl, hq, hr⟩
            · rw [hr] at hlt; simp at hlt
            have hck := hk2 _ _ _ hq (hr k hlt) (fun _ _ h => by cases h)
            have hsk := (hs _ (List.getElem_mem hlt)).kept hk2
            rw [List.drop_eq_getElem_cons hlt, List.map_cons, List.flatten_cons] at hbs
            obtain ⟨b1, b2, rfl, hb1, hb2⟩ := List.map_eq_append_iff.1 hbs
            have HI := hide (ih (n - 1) _ _ b1 (pre ++ [x] ++ es) wr hsk hb1 hJ2 (by rw [hab] at hN; simp at hN ⊢; omega))
            have HAB := hide hab
            have HB2 := hide hb2
            clear ih hY hs hr hab hbs hb1 hb2 hxs hN hJ hJ1 hJ2 hsk
            gi_wp2_with ((try refine ⟨hdd _, ?_⟩); gi_at_call 163; refine (unhide HI).mono ?_; clear HI; rintro e W3 (⟨rfl, hJ3, hk3⟩ | ⟨rfl, q', hq', hx3⟩))
            · go_roundw
              case rel => exact ⟨k + 1, es ++ b1, b2, by omega, by go_num, by rw [unhide HAB, List.append_assoc], unhide HB2, by simpa [List.append_assoc] using hJ3, hk2.trans hk3⟩
              case measure => simp [intOf]; omega
            · go_ret
              obtain ⟨r, hr'⟩ := hq'
              exact .inr ⟨rfl, x :: (es ++ q'), ⟨r ++ b2, by rw [unhide HAB, ← hr']; simp⟩, by simpa [List.append_assoc] using hx3⟩
          · have e : k = ks.length := by omega
            subst e
            rw [List.drop_length] at hbs
            simp at hbs
            subst hbs
            have HAB := hide hab
            clear hab
            gi_wp2
            go_ret
            refine .inl ⟨rfl, ?_, hk2⟩
            rw [unhide HAB]
            simpa using hJ2
      · gi_wp2
        go_ret
        exact .inr ⟨rfl, [x], ⟨xs, rfl⟩, hx1⟩
set_option maxHeartbeats 1000000 in
theorem nodes1_in {α : Type} (bl : α → Nat) (F : Fence) (hd : F.depth = none) (n : Nat) (hf0 : F.fn 162) (hf1 : F.fn 163) (hro : F.round = none) (l Bt n₀ f p : Nat) (gs : List Nat) (xs : List α) (J Jx : List α → World → Prop)
    (hY : ∀ pre x W, J pre W → pre.length < xs.length → YieldAt F (n - 1) Try.prog l #[.pointer (some ⟨bl x, 0, none⟩)] W fun e W' =>
      (e = .returned (.bool true) ∧ J (pre ++ [x]) W' ∧ KpS n₀ W W') ∨ (e = .returned (.bool false) ∧ Jx (pre ++ [x]) W'))
    (W : World) (hBt : W.cell? ⟨Bt, 0, none⟩ = some (.pointer (some ⟨p, 0, none⟩))) (hT : Shp n₀ W f p gs) (hxs : xs.map bl = gs) (h0 : J [] W) :
    CallsIn F n Try.prog 162 #[.func (.yield l) #[] #[], .pointer (some ⟨Bt, 0, none⟩)] W fun e W' => (∃ v, e = .returned v) ∧
      ((∃ ys, ys = xs ∧ J ys W') ∨ (∃ pre, pre <+: xs ∧ Jx pre W')) := by
  have hdd : ∀ k : Nat, (F.depth.isSome = true → 1 ≤ k) := fun k h => by rw [hd] at h; cases h
  have hp := hide (tell_in bl F hd hf1 hro l n₀ xs.length J Jx (fun m pre x W hj hl => yield_anyDepth hd m (hY pre x W hj hl)) f (n - 1) p gs xs [] W hT hxs h0 (by simp))
  refine callsIn_of_wp Try.func162 rfl hf0 ?_ hro
  simp only [Try.ntmps162, List.size_toArray, List.length_cons, List.length_nil, Nat.reduceAdd, Nat.reduceSub, Array.replicate_succ, Array.replicate_zero, List.push_toArray, List.append_toArray, List.nil_append, List.cons_append]
  gi_wp2_with ((try refine ⟨hdd _, ?_⟩); gi_at_call 163; refine (unhide hp).mono ?_; clear hp; rintro e W1 (⟨rfl, hJ1, _⟩ | ⟨rfl, q, hq, hx⟩))
  · go_end0
    exact ⟨⟨_, rfl⟩, .inl ⟨_, rfl, by simpa using hJ1⟩⟩
  · go_end0
    exact ⟨⟨_, rfl⟩, .inr ⟨q, hq, by simpa using hx⟩⟩

set_option maxHeartbeats 1000000 in
theorem nodes_in (F : Fence) (n : Nat) (hfn : F.fn 152) (hro : F.round = none) (p0 : Option Addr) (w : World) :
    CallsIn F n Try.prog 152 #[.pointer p0] w fun e w' => e = .returned (.func (.func 162) #[] #[.pointer (some ⟨w.heap.size, 0, none⟩)]) ∧ w' = w.alloc (.cells #[.pointer p0] 96) := by
  refine callsIn_of_wp Try.func152 rfl hfn ?_ hro
  simp only [Try.ntmps152, List.size_toArray, List.length_cons, List.length_nil, Nat.reduceAdd, Nat.reduceSub, Array.replicate_succ, Array.replicate_zero, List.push_toArray, List.append_toArray, List.nil_append, List.cons_append]
  gi_wp2
  go_ret
  exact ⟨rfl, rfl⟩

theorem nodes_stops {α : Type} (bl : α → Nat) (F : Fence) (hd : F.depth = none) (n : Nat) (hf0 : F.fn 162) (hf1 : F.fn 163) (hro : F.round = none) (Bt n₀ f p : Nat) (gs : List Nat) (xs : List α) (w : World) (hBt : Bt < w.heap.size) (hn₀ : n₀ ≤ w.heap.size)
    (hc : w.cell? ⟨Bt, 0, none⟩ = some (.pointer (some ⟨p, 0, none⟩))) (hT : Shp n₀ w f p gs) (hxs : xs.map bl = gs) :
    SeqStopsK F n Try.prog 162 #[.pointer (some ⟨Bt, 0, none⟩)] (fun x : α => #[Value.pointer (some ⟨bl x, 0, none⟩)]) (KpS n₀) (fun ys => ys = xs) (fun pre => pre <+: xs) xs.length w := fun l J Jx W hW _ _ hY h0 =>
  nodes1_in bl F hd n hf0 hf1 hro l Bt n₀ f p gs xs J Jx hY W ((hW.cell (p := ⟨Bt, 0, none⟩) hBt).trans hc) (hT.below (hW.mono hn₀)) hxs h0

theorem kpsK_t {n₀ : Nat} {A B C : World} (h : KpS n₀ A B) (k : KpS n₀ B C) : KpS n₀ A C := h.trans k
theorem kpsK_b {n₀ : Nat} {w : World} (hn : n₀ ≤ w.heap.size) (W : World) (l : Nat) (o o' : Obj) (hl : w.heap.size ≤ l) (h : W.heap[l]? = some o) (h1 : o.isCells = false) (h2 : o.isWalk = false) : KpS n₀ W (W.putObj l o') := KpS.of_below (belowK_b hn W l o o' hl h h1 h2)
end Go.Proofs.Ythgfhimhgeohcaa
