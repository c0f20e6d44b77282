/- The reader of texts of the program: names with arguments, terms. -/
import Derived.Test.YtjjpmlcaapedhaaDoorQRR2
import Derived.Test.YtjjpmlcaapedhaaDoorQT4
import Derived.Test.YtjjpmlcaapedhaaDoorQT2
namespace Go.Proofs.YtjjpmlcaapedhaaDoor
open Go.RowKit Go.Shelf
set_option linter.unusedVariables false
set_option linter.unusedSimpArgs false

/-- A tree in blocks of S, with as many arguments as there are. -/
def Trg (S : Nat → Prop) (W : World) : Nat → Nat → List (Nat × C) → Prop
  | 0, _, _ => False
  | f + 1, p, z => ∃ (c : C) (ks : List (Nat × List (Nat × C))) (ao : Option Addr) (cap : Nat), z = (p, c) :: (ks.map (·.2)).flatten ∧ S p ∧ ks.length ≤ 1000 ∧ Node W p c (.slice ao ks.length cap) ∧
      (ks = [] ∨ ∃ q, ao = some ⟨q, 0, none⟩ ∧ S q ∧ ∀ i, (h : i < ks.length) → W.cell? ⟨q, i, none⟩ = some (.pointer (some ⟨ks[i].1, 0, none⟩))) ∧ ∀ k ∈ ks, Trg S W f k.1 k.2

theorem Trg.kept {S S' : Nat → Prop} {W W' : World} (hS : ∀ b, S b → S' b) (hk : ∀ b, S b → W'.heap[b]? = W.heap[b]?) : ∀ {f p : Nat} {z : List (Nat × C)}, Trg S W f p z → Trg S' W' f p z
  | f + 1, p, z, ⟨c, ks, ao, cap, e, hp, hl, hn, hr, hs⟩ => ⟨c, ks, ao, cap, e, hS p hp, hl, (hk p hp).trans hn, hr.imp_right fun ⟨q, e, hq, h⟩ => ⟨q, e, hS q hq, fun i hi => (World.cell?_of_block (a := ⟨q, i, none⟩) (hk q hq)).trans (h i hi)⟩, fun k hm => (hs k hm).kept hS hk⟩
theorem Trg.mono {S : Nat → Prop} {W : World} : ∀ {f g p : Nat} {z : List (Nat × C)}, Trg S W f p z → f ≤ g → Trg S W g p z
  | f + 1, g + 1, p, z, ⟨c, ks, ao, cap, e, hp, hl, hn, hr, hs⟩, h => ⟨c, ks, ao, cap, e, hp, hl, hn, hr, fun k hk => (hs k hk).mono (by omega)⟩
theorem Trg.shp {S : Nat → Prop} {W : World} {n₀ : Nat} (hS : ∀ b, S b → b < n₀) : ∀ {f p : Nat} {z : List (Nat × C)}, Trg S W f p z → Shp n₀ W f p (z.map (·.1)) ∧ ∀ x ∈ z, Held n₀ W x
  | f + 1, p, z, ⟨c, ks, ao, cap, e, hp, hl, hn, hr, hs⟩ => by
      subst e
      refine ⟨⟨ks.map (fun k => (k.1, k.2.map (·.1))), ao, cap, ?_, hS p hp, by rw [List.length_map]; unfold maxLen; omega, by rw [List.length_map]; exact hn.cell, ?_, ?_⟩, ?_⟩
      · simp [List.map_flatten, List.map_map, Function.comp_def]
      · rcases hr with hr | ⟨q, e, hq, h⟩
        · exact .inl (by rw [hr]; rfl)
        · refine .inr ⟨q, e, hS q hq, fun i hi => ?_⟩
          rw [List.getElem_map]
          exact h i (by simpa using hi)
      · intro k hk
        obtain ⟨k', hk', rfl⟩ := List.mem_map.1 hk
        exact ((hs k' hk').shp hS).1
      · intro x hx
        rcases List.mem_cons.1 hx with rfl | hx
        · exact ⟨hS p hp, hn.cells.1, hn.cells.2.1, hn.cells.2.2⟩
        · obtain ⟨l, hl', hx⟩ := List.mem_flatten.1 hx
          obtain ⟨k, hk, rfl⟩ := List.mem_map.1 hl'
          exact ((hs k hk).shp hS).2 x hx

theorem Node.setN' {W : World} {p : Nat} {c : C} {v : Value} (x : Int) (h : Node W p c v) : Node (W.setCell ⟨p, 1, none⟩ (.int .i64 x)) p ⟨c.k, x, c.s⟩ v := by
  obtain ⟨hlt, hk⟩ := Array.getElem?_eq_some_iff.1 h
  show (W.heap.modify p _)[p]? = _
  rw [Array.getElem?_eq_getElem (by rw [Array.size_modify]; exact hlt), Array.getElem_modify_self, hk]
  rfl
theorem Node.frozenN' {W : World} {p : Nat} {c : C} {v : Value} (h : Node W p c v) : W.frozen? ⟨p, 1, none⟩ = false := by simp [World.frozen?, show W.heap[p]? = _ from h]

/-- How far name has come: so many arguments are laid. -/
structure KidsG (wb : World) (R f : Nat) (nm : List UInt8) (v : Value) (zs : List (Nat × List (Nat × C))) (wr : World) : Prop where
  node : Node wr wb.heap.size ⟨3, zs.length, mkS nm⟩ v
  row : wr.ownsRow wb.heap.size 44 1 v zs.length (zs.map fun x => .pointer (some ⟨x.1, 0, none⟩))
  kids : ∀ x ∈ zs, Trg (Fr (wb.heap.size + 1) wr.heap.size wb.heap.size v) wr f x.1 x.2
  grown : wb.grownBy wr (some R)

theorem kidsG_node {wb wr w2 w3 : World} {R f p : Nat} {nm : List UInt8} {v : Value} {zs : List (Nat × List (Nat × C))} (hR : R < wb.heap.size) (hK : KidsG wb R f nm v zs wr)
    (hb : wr.grownBy w2 (some R)) (hgrow : (w2.alloc (.cells #[.pointer (some ⟨p, 0, none⟩)] 44)).grownBy w3 v.ownBlock) : Node w3 wb.heap.size ⟨3, zs.length, mkS nm⟩ v := by
  have hs := hb.size
  have hl := hK.node.lt
  refine (hgrow.block _ (by simp; omega) (hK.node.not_row hK.row)).trans ?_
  exact (Below.heap_alloc w2 _ _ (by omega)).trans ((hb.block _ hl (fun e => by have := Option.some.inj e; omega)).trans hK.node)

theorem kidsG_step {wb wr w2 w3 : World} {R f p g' cap' : Nat} {nm : List UInt8} {v : Value} {zs : List (Nat × List (Nat × C))} {z : List (Nat × C)} (hR : R < wb.heap.size) (hK : KidsG wb R f nm v zs wr)
    (hb : wr.grownBy w2 (some R)) (hT : Trg (fun b => wr.heap.size ≤ b ∧ b < w2.heap.size) w2 f p z)
    (hown' : w3.ownsRow wb.heap.size 44 1 (.slice (some ⟨g', 0, none⟩) (zs.length + 1) cap') (zs.length + 1) (zs.map (fun x => .pointer (some ⟨x.1, 0, none⟩)) ++ [.pointer (some ⟨p, 0, none⟩)]))
    (hgrow : (w2.alloc (.cells #[.pointer (some ⟨p, 0, none⟩)] 44)).grownBy w3 v.ownBlock) (hat : v.ownBlock = some g' ∨ g' = w2.heap.size + 1) :
    KidsG wb R f nm (.slice (some ⟨g', 0, none⟩) (zs.length + 1) cap') (zs ++ [(p, z)]) ((w3.setCell ⟨wb.heap.size, 3, none⟩ (.slice (some ⟨g', 0, none⟩) (zs.length + 1) cap')).setCell ⟨wb.heap.size, 1, none⟩ (.int .i64 (zs.length + 1))) ∧
      ((w3.setCell ⟨wb.heap.size, 3, none⟩ (.slice (some ⟨g', 0, none⟩) (zs.length + 1) cap')).setCell ⟨wb.heap.size, 1, none⟩ (.int .i64 (zs.length + 1))).heap[R]? = w2.heap[R]? := by
  have hn3 := kidsG_node hR hK hb hgrow
  obtain ⟨h3, h4, h5, h7⟩ := hK
  have hs := hb.size
  have hl := h3.lt
  have hs3 := hgrow.size
  simp at hs3
  have hsz : ((w3.setCell ⟨wb.heap.size, 3, none⟩ (.slice (some ⟨g', 0, none⟩) (zs.length + 1) cap')).setCell ⟨wb.heap.size, 1, none⟩ (.int .i64 (zs.length + 1))).heap.size = w3.heap.size := by simp
  have hrowge : ∀ j, v.ownBlock = some j → wb.heap.size ≤ j := fun j e => by
    rcases h4.2 with ⟨rfl, _⟩ | ⟨g, cap, cur, rfl, hge, _⟩
    · simp [Value.ownBlock] at e
    · obtain rfl : g = j := by simpa [Value.ownBlock] using e
      exact hge
  have far : ∀ b, b < w2.heap.size → b ≠ wb.heap.size → some b ≠ v.ownBlock → ((w3.setCell ⟨wb.heap.size, 3, none⟩ (.slice (some ⟨g', 0, none⟩) (zs.length + 1) cap')).setCell ⟨wb.heap.size, 1, none⟩ (.int .i64 (zs.length + 1))).heap[b]? = w2.heap[b]? := fun b hb1 hb2 hb3 =>
    (Below.heap_setCell _ _ _ b (fun e => hb2 e)).trans ((Below.heap_setCell _ _ _ b (fun e => hb2 e)).trans ((hgrow.block b (by simp; omega) hb3).trans (Below.heap_alloc w2 _ b hb1)))
  have notg : ∀ b, b < w2.heap.size → some b ≠ v.ownBlock → some b ≠ (Value.slice (some ⟨g', 0, none⟩) (zs.length + 1) cap').ownBlock := fun b hb1 hb2 e => by
    have e' : b = g' := by simpa [Value.ownBlock] using e
    rcases hat with hat | hat
    · exact hb2 (by rw [hat, e'])
    · omega
  have hsz7 := h7.size
  refine ⟨⟨?_, ?_, ?_, ?_⟩, far R (by omega) (by omega) (fun e => by have := hrowge R e.symm; omega)⟩
  · rw [List.length_append]
    exact (hn3.set _).setN' _
  · rw [List.length_append, List.map_append]
    exact (hown'.kept (grownBy_setc w3 _ _) (.inr (fun e => hn3.not_row hown' e.symm))).kept (grownBy_setc _ _ _) (.inr (fun e => hn3.not_row hown' e.symm))
  · intro x hx
    rcases List.mem_append.1 hx with hx | hx
    · refine (h5 x hx).kept (fun b hb1 => ?_) (fun b hb1 => ?_)
      · obtain ⟨q1, q2, q3, q4⟩ := hb1
        exact ⟨q1, by rw [hsz]; omega, q3, notg b (by omega) q4⟩
      · obtain ⟨q1, q2, q3, q4⟩ := hb1
        exact (far b (by omega) q3 q4).trans (hb.block b q2 (fun e => by have := Option.some.inj e; omega))
    · simp at hx
      subst hx
      have hvb : ∀ b, wr.heap.size ≤ b → some b ≠ v.ownBlock := fun b h e => by have := own_lt h4 e.symm; omega
      refine hT.kept (fun b hb1 => ?_) (fun b hb1 => ?_)
      · exact ⟨by omega, by rw [hsz]; omega, by omega, notg b (by omega) (hvb b hb1.1)⟩
      · exact far b hb1.2 (by omega) (hvb b hb1.1)
  · have g1 := grownR_trans h7 hb
    refine ⟨hgrow.os.trans g1.os, hgrow.tape.trans g1.tape, hgrow.output.trans g1.output, by rw [hsz]; omega, fun j hj hn => ?_⟩
    exact (far j (by omega) (by omega) (fun e => by have := hrowge j e.symm; omega)).trans (g1.block j hj hn)

theorem kidsG_end {wb wr : World} {R f : Nat} {nm : List UInt8} {v : Value} {zs : List (Nat × List (Nat × C))} (hK : KidsG wb R f nm v zs wr) (hz : zs.length ≤ 1000) :
    Trg (fun b => wb.heap.size ≤ b ∧ b < wr.heap.size) wr (f + 1) wb.heap.size ((wb.heap.size, ⟨3, zs.length, mkS nm⟩) :: (zs.map (·.2)).flatten) := by
  obtain ⟨hn, h4, h5, h7⟩ := hK
  have hl := hn.lt
  have hks : ∀ k ∈ zs, Trg (fun b => wb.heap.size ≤ b ∧ b < wr.heap.size) wr f k.1 k.2 := fun k hk => (h5 k hk).kept (fun b hb => ⟨by have := hb.1; omega, hb.2.1⟩) (fun b _ => rfl)
  rcases h4.2 with ⟨rfl, h0⟩ | ⟨g, cap, cur, rfl, hge, hgb, _⟩
  · have hz0 : zs = [] := List.length_eq_zero_iff.1 (by omega)
    subst hz0
    exact ⟨_, [], none, 0, rfl, ⟨Nat.le_refl _, hl⟩, by simp, hn, .inl rfl, by simp⟩
  · refine ⟨_, zs, some ⟨g, 0, none⟩, cap, rfl, ⟨Nat.le_refl _, hl⟩, hz, hn, .inr ⟨g, rfl, ⟨hge, (Array.getElem?_eq_some_iff.1 hgb).1⟩, fun i hi => ?_⟩, hks⟩
    have := h4.cellAt i (by omega)
    rw [this, List.getElem?_map, List.getElem?_eq_getElem hi]
    rfl

/-- What term hands back. -/
def GotR (R : Nat) (w : World) (f : Nat) (o : Option (List C × List UInt8 × Nat)) (e : Ending) (w' : World) : Prop :=
  w.grownBy w' (some R) ∧ match o with
    | none => e = .returned (.pointer none)
    | some (t, r, g) => ∃ q z, e = .returned (.pointer (some ⟨q, 0, none⟩)) ∧ z.map (·.2) = t ∧ Trg (fun b => w.heap.size ≤ b ∧ b < w'.heap.size) w' f q z ∧ Rst w' R r (40 - g)

/-- A name, and its arguments. -/
def nameRes (f : Nat) (l : List UInt8) : Option (List C × List UInt8 × Nat) :=
  if (l.dropWhile sml).head? = some 40 then
    match rtA f (l.dropWhile sml).tail with
    | none => none
    | some (ks, r', g) => some (⟨3, ks.length, mkS (l.takeWhile sml)⟩ :: ks.flatten, r', g)
  else some ([⟨3, 0, mkS (l.takeWhile sml)⟩], l.dropWhile sml, f)

theorem rtT_cons (f : Nat) (b : UInt8) (r : List UInt8) : rtT (f + 1) (b :: r) =
    if b = 88 then (match numRes 1 1 r with | none => none | some (c, r') => some ([c], r', f))
    else if b = 45 then (match numRes 2 (-1) r with | none => none | some (c, r') => some ([c], r', f))
    else if dig b then (match numRes 2 1 (b :: r) with | none => none | some (c, r') => some ([c], r', f))
    else nameRes f (b :: r) := by
  rw [rtT, rdWord_cons]
  by_cases h1 : b = 88
  · rw [if_pos h1, if_pos h1]
    unfold numRes
    cases hr : rdNum r with
    | none => rfl
    | some x =>
      obtain ⟨v, r'⟩ := x
      simp
  · rw [if_neg h1, if_neg h1]
    by_cases h2 : b = 45
    · rw [if_pos h2, if_pos h2]
      unfold numRes
      cases hr : rdNum r with
      | none => rfl
      | some x =>
        obtain ⟨v, r'⟩ := x
        by_cases hv : v = 0
        · subst hv; simp
        · simp [hv]
    · rw [if_neg h2, if_neg h2]
      by_cases h3 : dig b = true
      · rw [if_pos h3, if_pos h3]
        unfold numRes
        cases hr : rdNum (b :: r) with
        | none => rfl
        | some x =>
          obtain ⟨v, r'⟩ := x
          simp
      · rw [if_neg h3, if_neg h3]
        unfold nameRes mkS
        simp only [true_and]
        split
        · rfl
        · rfl

/-- Arguments behind those that are read. -/
def comb (zs : List (Nat × List (Nat × C))) (o : Option (List (List C) × List UInt8 × Nat)) : Option (List (List C) × List UInt8 × Nat) := match o with
  | none => none
  | some (ks, r, g) => some (zs.map (fun x => x.2.map (·.2)) ++ ks, r, g)

/-- How many places there may still be. -/
def pl (R : Nat) (W : World) : Nat := match W.cell? ⟨R, 1, none⟩ with
  | some (.int _ p) => (40 - p).toNat
  | _ => 0
theorem Rst.pl {w : World} {R : Nat} {l : List UInt8} {f : Nat} (h : Rst w R l (40 - (f : Int))) : pl R w = f := by
  unfold Go.Proofs.YtjjpmlcaapedhaaDoor.pl
  rw [h.c1]
  simp
  omega
end Go.Proofs.YtjjpmlcaapedhaaDoor
