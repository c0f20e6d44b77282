/- The walk of firstTree. -/
import Derived.Deep.RegionLaw
import Derived.Deep.AppendLies
import Derived.BigRegion
import Derived.Test.YtjjpmlcaapedhaaDoorQT2
namespace Go.Proofs.YtjjpmlcaapedhaaDoor
open Go.RowKit Go.Shelf
set_option linter.unusedVariables false
set_option linter.unusedSimpArgs false

/-- A slice that leads to places that lie below n₀. -/
def Sl (n₀ : Nat) (w : World) (v : Value) (t : List C) : Prop := ∃ ao cap, v = .slice ao t.length cap ∧ t.length ≤ cap ∧ cap ≤ maxLen ∧ (t = [] ∨ ∃ b off, ao = some ⟨b, off, none⟩ ∧ b < n₀ ∧ At w b off t)

theorem Sl.below {n₀ : Nat} {w w' : World} {v : Value} {t : List C} (h : Sl n₀ w v t) (hb : Below n₀ w w') : Sl n₀ w' v t := by
  obtain ⟨ao, cap, e, h1, h2, h3⟩ := h
  exact ⟨ao, cap, e, h1, h2, h3.imp_right fun ⟨b, off, e, hl, hA⟩ => ⟨b, off, e, hl, hA.kept (hb.block b hl)⟩⟩

/-- A node's block. -/
def Node (W : World) (p : Nat) (c : C) (v : Value) : Prop := W.heap[p]? = some (.cells #[.int .i64 c.k, .int .i64 c.n, .string c.s, v] 71 (0, 0))

theorem Node.lt {W : World} {p : Nat} {c : C} {v : Value} (h : Node W p c v) : p < W.heap.size := (Array.getElem?_eq_some_iff.1 h).1

/-- A tree in blocks of S, its nodes and what they hold. -/
def Tre (S : Nat → Prop) (W : World) : Nat → Nat → List (Nat × C) → Prop
  | 0, _, _ => False
  | f + 1, p, z => ∃ (c : C) (ks : List (Nat × List (Nat × C))) (ao : Option Addr) (cap : Nat), z = (p, c) :: (ks.map (·.2)).flatten ∧ S p ∧ (ks.length ≤ 3 ∧ (ks.length : Int) = ari c) ∧ Node W p c (.slice ao ks.length cap) ∧
      (ks = [] ∨ ∃ q, ao = some ⟨q, 0, none⟩ ∧ S q ∧ ∀ i, (h : i < ks.length) → W.cell? ⟨q, i, none⟩ = some (.pointer (some ⟨ks[i].1, 0, none⟩))) ∧ ∀ k ∈ ks, Tre S W f k.1 k.2

theorem Tre.kept {S S' : Nat → Prop} {W W' : World} (hS : ∀ b, S b → S' b) (hk : ∀ b, S b → W'.heap[b]? = W.heap[b]?) : ∀ {f p : Nat} {z : List (Nat × C)}, Tre S W f p z → Tre S' W' f p z
  | f + 1, p, z, ⟨c, ks, ao, cap, e, hp, hl, hn, hr, hs⟩ => ⟨c, ks, ao, cap, e, hS p hp, hl, (hk p hp).trans hn, hr.imp_right fun ⟨q, e, hq, h⟩ => ⟨q, e, hS q hq, fun i hi => (World.cell?_of_block (a := ⟨q, i, none⟩) (hk q hq)).trans (h i hi)⟩, fun k hm => (hs k hm).kept hS hk⟩

theorem Tre.blocks {S : Nat → Prop} {W : World} : ∀ {f p : Nat} {z : List (Nat × C)}, Tre S W f p z → ∀ x ∈ z, S x.1
  | f + 1, p, z, ⟨c, ks, ao, cap, e, hp, hl, hn, hr, hs⟩, x, hx => by
      rw [e] at hx
      rcases List.mem_cons.1 hx with rfl | hx
      · exact hp
      · obtain ⟨l, hl, hx⟩ := List.mem_flatten.1 hx
        obtain ⟨k, hk, rfl⟩ := List.mem_map.1 hl
        exact (hs k hk).blocks x hx

/-- Blocks that a call has made, but for one and for a slice's own. -/
def Fr (lo hi P : Nat) (v : Value) (b : Nat) : Prop := lo ≤ b ∧ b < hi ∧ b ≠ P ∧ some b ≠ v.ownBlock

theorem grownBy_setc (W : World) (a : Addr) (v : Value) : W.grownBy (W.setCell a v) (some a.block) :=
  ⟨rfl, rfl, rfl, (KeepsWalks.setCell W _ v).size, fun k _ hk => Below.heap_setCell _ _ _ k (fun e => hk (by rw [e]))⟩

theorem Node.cell {W : World} {p : Nat} {c : C} {v : Value} (h : Node W p c v) : W.cell? ⟨p, 3, none⟩ = some v := by simp [World.cell?, show W.heap[p]? = _ from h]
theorem Node.frozen {W : World} {p : Nat} {c : C} {v : Value} (h : Node W p c v) : W.frozen? ⟨p, 3, none⟩ = false := by simp [World.frozen?, show W.heap[p]? = _ from h]
theorem Node.cells {W : World} {p : Nat} {c : C} {v : Value} (h : Node W p c v) : W.cell? ⟨p, 0, none⟩ = some (.int .i64 c.k) ∧ W.cell? ⟨p, 1, none⟩ = some (.int .i64 c.n) ∧ W.cell? ⟨p, 2, none⟩ = some (.string c.s) := by
  refine ⟨?_, ?_, ?_⟩ <;> simp [World.cell?, show W.heap[p]? = _ from h]
theorem Node.set {W : World} {p : Nat} {c : C} {v : Value} (v' : Value) (h : Node W p c v) : Node (W.setCell ⟨p, 3, none⟩ v') p c v' := by
  obtain ⟨hlt, hk⟩ := Array.getElem?_eq_some_iff.1 h
  show (W.heap.modify p _)[p]? = _
  rw [Array.getElem?_eq_getElem (by rw [Array.size_modify]; exact hlt), Array.getElem_modify_self, hk]
  rfl
theorem Node.not_row {W : World} {p : Nat} {c : C} {u : Value} (h : Node W p c u) {base size k : Nat} {v : Value} {xs : List Value} (hr : W.ownsRow base 44 size v k xs) : some p ≠ v.ownBlock := by
  rcases hr.2 with ⟨rfl, _⟩ | ⟨g, cap, cur, rfl, _, hgb, _⟩
  · simp [Value.ownBlock]
  · intro e'
    obtain rfl : p = g := by simpa [Value.ownBlock] using e'
    have := (show W.heap[p]? = _ from h).symm.trans hgb
    simp at this

/-- How far firstTree has come: k arguments are laid. -/
def Kids (w : World) (f : Nat) (c : C) (ks : List (List C)) (k : Nat) (v : Value) (zs : List (Nat × List (Nat × C))) (wr : World) : Prop :=
  zs.map (fun x => x.2.map (·.2)) = ks.take k ∧ zs.length = k ∧ Node wr w.heap.size c v ∧ wr.ownsRow w.heap.size 44 1 v k (zs.map fun x => .pointer (some ⟨x.1, 0, none⟩)) ∧
    (∀ x ∈ zs, Tre (Fr (w.heap.size + 1) wr.heap.size w.heap.size v) wr f x.1 x.2) ∧ ((zs.map (·.2)).flatten.map (·.1)).Nodup ∧ Below w.heap.size w wr

theorem own_lt {w : World} {base e size n : Nat} {v : Value} {xs : List Value} (h : w.ownsRow base e size v n xs) {g : Nat} (hg : v.ownBlock = some g) : g < w.heap.size := by
  rcases h.2 with ⟨rfl, _⟩ | ⟨g', cap, cur, rfl, _, hgb, _⟩
  · simp [Value.ownBlock] at hg
  · obtain rfl : g' = g := by simpa [Value.ownBlock] using hg
    exact (Array.getElem?_eq_some_iff.1 hgb).1

theorem kids_node {w wr w2 w3 : World} {f k p : Nat} {c : C} {ks : List (List C)} {v : Value} {zs : List (Nat × List (Nat × C))} (hK : Kids w f c ks k v zs wr)
    (hb : Below wr.heap.size wr w2) (hgrow : (w2.alloc (.cells #[.pointer (some ⟨p, 0, none⟩)] 44)).grownBy w3 v.ownBlock) : Node w3 w.heap.size c v := by
  obtain ⟨h1, h2, h3, h4, h5, h6, h7⟩ := hK
  have hs := hb.size
  have hl := h3.lt
  refine (hgrow.block _ (by simp; omega) (h3.not_row h4)).trans ?_
  exact (Below.heap_alloc w2 _ _ (by omega)).trans ((hb.block _ hl).trans h3)

theorem kids_step {w wr w2 w3 : World} {f k p g' cap' : Nat} {c : C} {ks : List (List C)} {v : Value} {zs : List (Nat × List (Nat × C))} {z : List (Nat × C)} (hK : Kids w f c ks k v zs wr) (hk : k < ks.length)
    (hb : Below wr.heap.size wr w2) (hT : Tre (fun b => wr.heap.size ≤ b ∧ b < w2.heap.size) w2 f p z) (hz : z.map (·.2) = ks[k]) (hnd : (z.map (·.1)).Nodup)
    (hown' : w3.ownsRow w.heap.size 44 1 (.slice (some ⟨g', 0, none⟩) (k + 1) cap') (k + 1) (zs.map (fun x => .pointer (some ⟨x.1, 0, none⟩)) ++ [.pointer (some ⟨p, 0, none⟩)]))
    (hgrow : (w2.alloc (.cells #[.pointer (some ⟨p, 0, none⟩)] 44)).grownBy w3 v.ownBlock) (hat : v.ownBlock = some g' ∨ g' = w2.heap.size + 1) :
    Kids w f c ks (k + 1) (.slice (some ⟨g', 0, none⟩) (k + 1) cap') (zs ++ [(p, z)]) (w3.setCell ⟨w.heap.size, 3, none⟩ (.slice (some ⟨g', 0, none⟩) (k + 1) cap')) ∧ Below w.heap.size w2 (w3.setCell ⟨w.heap.size, 3, none⟩ (.slice (some ⟨g', 0, none⟩) (k + 1) cap')) := by
  have hn3 := kids_node hK hb hgrow
  obtain ⟨h1, h2, h3, h4, h5, h6, h7⟩ := hK
  have hs := hb.size
  have hl := h3.lt
  have hs3 := hgrow.size
  simp at hs3
  have hsz : (w3.setCell ⟨w.heap.size, 3, none⟩ (.slice (some ⟨g', 0, none⟩) (k + 1) cap')).heap.size = w3.heap.size := by simp
  have hrowge : ∀ j, v.ownBlock = some j → w.heap.size ≤ j := fun j e => by
    rcases h4.2 with ⟨rfl, _⟩ | ⟨g, cap, cur, rfl, hge, _⟩
    · simp [Value.ownBlock] at e
    · obtain rfl : g = j := by simpa [Value.ownBlock] using e
      exact hge
  have hbw : Below w.heap.size w2 (w3.setCell ⟨w.heap.size, 3, none⟩ (.slice (some ⟨g', 0, none⟩) (k + 1) cap')) :=
    (((Below.refl w.heap.size w2).alloc (by omega) _).grown hgrow (by simp; omega) hrowge).setCell (p := ⟨w.heap.size, 3, none⟩) (Nat.le_refl _) _
  -- what is neither the node nor the row is as it was
  have far : ∀ b, b < w2.heap.size → b ≠ w.heap.size → some b ≠ v.ownBlock → (w3.setCell ⟨w.heap.size, 3, none⟩ (.slice (some ⟨g', 0, none⟩) (k + 1) cap')).heap[b]? = w2.heap[b]? := fun b hb1 hb2 hb3 =>
    (Below.heap_setCell _ _ _ b (fun e => hb2 e)).trans ((hgrow.block b (by simp; omega) hb3).trans (Below.heap_alloc w2 _ b hb1))
  have notg : ∀ b, b < w2.heap.size → some b ≠ v.ownBlock → some b ≠ (Value.slice (some ⟨g', 0, none⟩) (k + 1) cap').ownBlock := fun b hb1 hb2 e => by
    have e' : b = g' := by simpa [Value.ownBlock] using e
    rcases hat with hat | hat
    · exact hb2 (by rw [hat, e'])
    · omega
  refine ⟨⟨?_, by simp [h2], hn3.set _, ?_, ?_, ?_, (h7.trans (hb.mono (by omega))).trans hbw⟩, hbw⟩
  · rw [List.map_append, h1, List.take_succ_eq_append_getElem hk, ← hz]; rfl
  · rw [List.map_append]
    exact hown'.kept (grownBy_setc w3 _ _) (.inr (fun e => hn3.not_row hown' e.symm))
  · intro x hx
    rcases List.mem_append.1 hx with hx | hx
    · refine (h5 x hx).kept (fun b hb1 => ?_) (fun b hb1 => ?_)
      · obtain ⟨q1, q2, q3, q4⟩ := hb1
        exact ⟨q1, by rw [hsz]; omega, q3, notg b (by omega) q4⟩
      · obtain ⟨q1, q2, q3, q4⟩ := hb1
        exact (far b (by omega) q3 q4).trans (hb.block b q2)
    · simp at hx
      subst hx
      have hvb : ∀ b, wr.heap.size ≤ b → some b ≠ v.ownBlock := fun b h e => by have := own_lt h4 e.symm; omega
      refine hT.kept (fun b hb1 => ?_) (fun b hb1 => ?_)
      · exact ⟨by omega, by rw [hsz]; omega, by omega, notg b (by omega) (hvb b hb1.1)⟩
      · exact far b hb1.2 (by omega) (hvb b hb1.1)
  · rw [List.map_append, List.flatten_append, List.map_append, List.nodup_append]
    refine ⟨h6, by simpa using hnd, fun a ha a' ha' => ?_⟩
    obtain ⟨x, hx, rfl⟩ := List.mem_map.1 ha
    obtain ⟨l, hl', hx⟩ := List.mem_flatten.1 hx
    obtain ⟨q, hq, rfl⟩ := List.mem_map.1 hl'
    have q1 := (h5 q hq).blocks x hx
    have q2 : wr.heap.size ≤ a' := by
      obtain ⟨y, hy, rfl⟩ := List.mem_map.1 ha'
      simp at hy
      exact (hT.blocks y hy).1
    have := q1.2.1
    omega

theorem kids_end {w wr : World} {f : Nat} {c : C} {ks : List (List C)} {v : Value} {zs : List (Nat × List (Nat × C))} (hK : Kids w f c ks ks.length v zs wr) (h3 : ks.length ≤ 3) (ha : (ks.length : Int) = ari c) :
    ∃ z, z.map (·.2) = c :: ks.flatten ∧ (z.map (·.1)).Nodup ∧ Tre (fun b => w.heap.size ≤ b ∧ b < wr.heap.size) wr (f + 1) w.heap.size z := by
  obtain ⟨h1, h2, hn, h4, h5, h6, h7⟩ := hK
  have hl := hn.lt
  rw [List.take_length] at h1
  refine ⟨(w.heap.size, c) :: (zs.map (·.2)).flatten, ?_, ?_, ?_⟩
  · rw [List.map_cons, List.map_flatten, List.map_map, ← h1]; rfl
  · rw [List.map_cons, List.nodup_cons]
    refine ⟨fun hm => ?_, h6⟩
    obtain ⟨x, hx, e⟩ := List.mem_map.1 hm
    obtain ⟨l, hl', hx⟩ := List.mem_flatten.1 hx
    obtain ⟨q, hq, rfl⟩ := List.mem_map.1 hl'
    exact ((h5 q hq).blocks x hx).2.2.1 e
  · have hks : ∀ k ∈ zs, Tre (fun b => w.heap.size ≤ b ∧ b < wr.heap.size) wr f k.1 k.2 := fun k hk => (h5 k hk).kept (fun b hb => ⟨by have := hb.1; omega, hb.2.1⟩) (fun b _ => rfl)
    rcases h4.2 with ⟨rfl, h0⟩ | ⟨g, cap, cur, rfl, hge, hgb, _⟩
    · have hz0 : zs = [] := List.length_eq_zero_iff.1 (by omega)
      subst hz0
      exact ⟨c, [], none, 0, rfl, ⟨Nat.le_refl _, hl⟩, ⟨by simp, by rw [← ha, ← h2]⟩, hn, .inl rfl, by simp⟩
    · refine ⟨c, zs, some ⟨g, 0, none⟩, cap, rfl, ⟨Nat.le_refl _, hl⟩, ⟨by omega, by rw [h2]; exact ha⟩, by rw [h2]; exact hn, .inr ⟨g, rfl, ⟨hge, (Array.getElem?_eq_some_iff.1 hgb).1⟩, fun i hi => ?_⟩, hks⟩
      have := h4.cellAt i (by omega)
      rw [this, List.getElem?_map, List.getElem?_eq_getElem hi]
      rfl

/-- What firstTree hands back. -/
def Got (n₀ : Nat) (w : World) (f : Nat) (t r : List C) (e : Ending) (w' : World) : Prop := ∃ p z v', e = .returned (.tuple #[.pointer (some ⟨p, 0, none⟩), v']) ∧ z.map (·.2) = t ∧ (z.map (·.1)).Nodup ∧
        Tre (fun b => w.heap.size ≤ b ∧ b < w'.heap.size) w' f p z ∧ Sl n₀ w' v' r ∧ Below w.heap.size w w'

end Go.Proofs.YtjjpmlcaapedhaaDoor
