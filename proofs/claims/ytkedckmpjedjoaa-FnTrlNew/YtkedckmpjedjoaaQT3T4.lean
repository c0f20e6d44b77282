import Derived.Deep.RegionLaw
import Derived.Deep.AppendLies
import Derived.BigRegion
import Derived.Test.YtkedckmpjedjoaaQT1Plain4T2
import Derived.Test.YtkedckmpjedjoaaQW15W16W2
import Derived.Test.YtkedckmpjedjoaaQW7Plain2G1
/- The walk of firstTree. -/
namespace Go.Proofs.Ytkedckmpjedjoaa
open Go.RowKit Go.Shelf
set_option linter.unusedVariables false
set_option linter.unusedSimpArgs false

/-- A slice that leads to places that lie below n₀. -/
def Sl (n₀ : Nat) (w : World) (v : Value) (t : List C) : Prop := ∃ ao cap, v = .slice ao t.length cap ∧ t.length ≤ cap ∧ cap ≤ maxLen ∧ (t = [] ∨ ∃ b off, ao = some ⟨b, off, none⟩ ∧ b < n₀ ∧ At w b off t)

theorem Sl.below {n₀ : Nat} {w w' : World} {v : Value} {t : List C} (h : Sl n₀ w v t) (hb : Below n₀ w w') : Sl n₀ w' v t := by
  obtain ⟨ao, cap, e, h1, h2, h3⟩ := h
  exact ⟨ao, cap, e, h1, h2, h3.imp_right fun ⟨b, off, e, hl, hA⟩ => ⟨b, off, e, hl, hA.kept (hb.block b hl)⟩⟩

/-- A node's block. -/
def Node (W : World) (p : Nat) (c : C) (v : Value) : Prop := W.heap[p]? = some (.cells #[.int .i64 c.k, .int .i64 c.n, .string c.s, v] 159 (0, 0))

theorem Node.lt {W : World} {p : Nat} {c : C} {v : Value} (h : Node W p c v) : p < W.heap.size := (Array.getElem?_eq_some_iff.1 h).1

/-- A tree in blocks of S, its nodes and what they hold. -/
def Tre (S : Nat → Prop) (W : World) : Nat → Nat → List (Nat × C) → Prop
  | 0, _, _ => False
  | f + 1, p, z => ∃ (c : C) (ks : List (Nat × List (Nat × C))) (ao : Option Addr) (cap : Nat), z = (p, c) :: (ks.map (·.2)).flatten ∧ S p ∧ (ks.length ≤ 3 ∧ (ks.length : Int) = ari c) ∧ Node W p c (.slice ao ks.length cap) ∧
      (ks = [] ∨ ∃ q, ao = some ⟨q, 0, none⟩ ∧ S q ∧ ∀ i, (h : i < ks.length) → W.cell? ⟨q, i, none⟩ = some (.pointer (some ⟨ks[i].1, 0, none⟩))) ∧ ∀ k ∈ ks, Tre S W f k.1 k.2

theorem Tre.kept {S S' : Nat → Prop} {W W' : World} (hS : ∀ b, S b → S' b) (hk : ∀ b, S b → W'.heap[b]? = W.heap[b]?) : ∀ {f p : Nat} {z : List (Nat × C)}, Tre S W f p z → Tre S' W' f p z
  | f + 1, p, z, ⟨c, ks, ao, cap, e, hp, hl, hn, hr, hs⟩ => ⟨c, ks, ao, cap, e, hS p hp, hl, (hk p hp).trans hn, hr.imp_right fun ⟨q, e, hq, h⟩ => ⟨q, e, hS q hq, fun i hi => (World.cell?_of_block (a := ⟨q, i, none⟩) (hk q hq)).trans (h i hi)⟩, fun k hm => (hs k hm).kept hS hk⟩

theorem Tre.blocks {S : Nat → Prop} {W : World} : ∀ {f p : Nat} {z : List (Nat × C)}, Tre S W f p z → ∀ x ∈ z, S x.1
  | f + 1, p, z, ⟨c, ks, ao, cap, e, hp, hl, hn, hr, hs⟩, x, hx => by
      rw [e] at hx
      rcases List.mem_cons.1 hx with rfl | hx
      · exact hp
      · obtain ⟨l, hl, hx⟩ := List.mem_flatten.1 hx
        obtain ⟨k, hk, rfl⟩ := List.mem_map.1 hl
        exact (hs k hk).blocks x hx

/-- Blocks that a call has made, but for one and for a slice's own. -/
def Fr (lo hi P : Nat) (v : Value) (b : Nat) : Prop := lo ≤ b ∧ b < hi ∧ b ≠ P ∧ some b ≠ v.ownBlock

theorem grownBy_setc (W : World) (a : Addr) (v : Value) : W.grownBy (W.setCell a v) (some a.block) :=
  ⟨rfl, rfl, rfl, (KeepsWalks.setCell W _ v).size, fun k _ hk => Below.heap_setCell _ _ _ k (fun e => hk (by rw [e]))⟩

theorem Node.cell {W : World} {p : Nat} {c : C} {v : Value} (h : Node W p c v) : W.cell? ⟨p, 3, none⟩ = some v := by simp [World.cell?, show W.heap[p]? = _ from h]
theorem Node.frozen {W : World} {p : Nat} {c : C} {v : Value} (h : Node W p c v) : W.frozen? ⟨p, 3, none⟩ = false := by simp [World.frozen?, show W.heap[p]? = _ from h]
theorem Node.cells {W : World} {p : Nat} {c : C} {v : Value} (h : Node W p c v) : W.cell? ⟨p, 0, none⟩ = some (.int .i64 c.k) ∧ W.cell? ⟨p, 1, none⟩ = some (.int .i64 c.n) ∧ W.cell? ⟨p, 2, none⟩ = some (.string c.s) := by
  refine ⟨?_, ?_, ?_⟩ <;> simp [World.cell?, show W.heap[p]? = _ from h]
theorem Node.set {W : World} {p : Nat} {c : C} {v : Value} (v' : Value) (h : Node W p c v) : Node (W.setCell ⟨p, 3, none⟩ v') p c v' := by
  obtain ⟨hlt, hk⟩ := Array.getElem?_eq_some_iff.1 h
  show (W.heap.modify p _)[p]? = _
  rw [Array.getElem?_eq_getElem (by rw [Array.size_modify]; exact hlt), Array.getElem_modify_self, hk]
  rfl
theorem Node.not_row {W : World} {p : Nat} {c : C} {u : Value} (h : Node W p c u) {base size k : Nat} {v : Value} {xs : List Value} (hr : W.ownsRow base 100 size v k xs) : some p ≠ v.ownBlock := by
  rcases hr.2 with ⟨rfl, _⟩ | ⟨g, cap, cur, rfl, _, hgb, _⟩
  · simp [Value.ownBlock]
  · intro e'
    obtain rfl : p = g := by simpa [Value.ownBlock] using e'
    have := (show W.heap[p]? = _ from h).symm.trans hgb
    simp at this

/-- How far firstTree has come: k arguments are laid. -/
def Kids (w : World) (f : Nat) (c : C) (ks : List (List C)) (k : Nat) (v : Value) (zs : List (Nat × List (Nat × C))) (wr : World) : Prop :=
  zs.map (fun x => x.2.map (·.2)) = ks.take k ∧ zs.length = k ∧ Node wr w.heap.size c v ∧ wr.ownsRow w.heap.size 100 1 v k (zs.map fun x => .pointer (some ⟨x.1, 0, none⟩)) ∧
    (∀ x ∈ zs, Tre (Fr (w.heap.size + 1) wr.heap.size w.heap.size v) wr f x.1 x.2) ∧ ((zs.map (·.2)).flatten.map (·.1)).Nodup ∧ Below w.heap.size w wr

theorem own_lt {w : World} {base e size n : Nat} {v : Value} {xs : List Value} (h : w.ownsRow base e size v n xs) {g : Nat} (hg : v.ownBlock = some g) : g < w.heap.size := by
  rcases h.2 with ⟨rfl, _⟩ | ⟨g', cap, cur, rfl, _, hgb, _⟩
  · simp [Value.ownBlock] at hg
  · obtain rfl : g' = g := by simpa [Value.ownBlock] using hg
    exact (Array.getElem?_eq_some_iff.1 hgb).1

theorem kids_node {w wr w2 w3 : World} {f k p : Nat} {c : C} {ks : List (List C)} {v : Value} {zs : List (Nat × List (Nat × C))} (hK : Kids w f c ks k v zs wr)
    (hb : Below wr.heap.size wr w2) (hgrow : (w2.alloc (.cells #[.pointer (some ⟨p, 0, none⟩)] 100)).grownBy w3 v.ownBlock) : Node w3 w.heap.size c v := by
  obtain ⟨h1, h2, h3, h4, h5, h6, h7⟩ := hK
  have hs := hb.size
  have hl := h3.lt
  refine (hgrow.block _ (by simp; omega) (h3.not_row h4)).trans ?_
  exact (Below.heap_alloc w2 _ _ (by omega)).trans ((hb.block _ hl).trans h3)

theorem kids_step {w wr w2 w3 : World} {f k p g' cap' : Nat} {c : C} {ks : List (List C)} {v : Value} {zs : List (Nat × List (Nat × C))} {z : List (Nat × C)} (hK : Kids w f c ks k v zs wr) (hk : k < ks.length)
    (hb : Below wr.heap.size wr w2) (hT : Tre (fun b => wr.heap.size ≤ b ∧ b < w2.heap.size) w2 f p z) (hz : z.map (·.2) = ks[k]) (hnd : (z.map (·.1)).Nodup)
    (hown' : w3.ownsRow w.heap.size 100 1 (.slice (some ⟨g', 0, none⟩) (k + 1) cap') (k + 1) (zs.map (fun x => .pointer (some ⟨x.1, 0, none⟩)) ++ [.pointer (some ⟨p, 0, none⟩)]))
    (hgrow : (w2.alloc (.cells #[.pointer (some ⟨p, 0, none⟩)] 100)).grownBy w3 v.ownBlock) (hat : v.ownBlock = some g' ∨ g' = w2.heap.size + 1) :
    Kids w f c ks (k + 1) (.slice (some ⟨g', 0, none⟩) (k + 1) cap') (zs ++ [(p, z)]) (w3.setCell ⟨w.heap.size, 3, none⟩ (.slice (some ⟨g', 0, none⟩) (k + 1) cap')) ∧ Below w.heap.size w2 (w3.setCell ⟨w.heap.size, 3, none⟩ (.slice (some ⟨g', 0, none⟩) (k + 1) cap')) := by
  have hn3 := kids_node hK hb hgrow
  obtain ⟨h1, h2, h3, h4, h5, h6, h7⟩ := hK
  have hs := hb.size
  have hl := h3.lt
  have hs3 := hgrow.size
  simp at hs3
  have hsz : (w3.setCell ⟨w.heap.size, 3, none⟩ (.slice (some ⟨g', 0, none⟩) (k + 1) cap')).heap.size = w3.heap.size := by simp
  have hrowge : ∀ j, v.ownBlock = some j → w.heap.size ≤ j := fun j e => by
    rcases h4.2 with ⟨rfl, _⟩ | ⟨g, cap, cur, rfl, hge, _⟩
    · simp [Value.ownBlock] at e
    · obtain rfl : g = j := by simpa [Value.ownBlock] using e
      exact hge
  have hbw : Below w.heap.size w2 (w3.setCell ⟨w.heap.size, 3, none⟩ (.slice (some ⟨g', 0, none⟩) (k + 1) cap')) :=
    (((Below.refl w.heap.size w2).alloc (by omega) _).grown hgrow (by simp; omega) hrowge).setCell (p := ⟨w.heap.size, 3, none⟩) (Nat.le_refl _) _
  -- what is neither the node nor the row is as it was
  have far : ∀ b, b < w2.heap.size → b ≠ w.heap.size → some b ≠ v.ownBlock → (w3.setCell ⟨w.heap.size, 3, none⟩ (.slice (some ⟨g', 0, none⟩) (k + 1) cap')).heap[b]? = w2.heap[b]? := fun b hb1 hb2 hb3 =>
    (Below.heap_setCell _ _ _ b (fun e => hb2 e)).trans ((hgrow.block b (by simp; omega) hb3).trans (Below.heap_alloc w2 _ b hb1))
  have notg : ∀ b, b < w2.heap.size → some b ≠ v.ownBlock → some b ≠ (Value.slice (some ⟨g', 0, none⟩) (k + 1) cap').ownBlock := fun b hb1 hb2 e => by
    have e' : b = g' := by simpa [Value.ownBlock] using e
    rcases hat with hat | hat
    · exact hb2 (by rw [hat, e'])
    · omega
  refine ⟨⟨?_, by simp [h2], hn3.set _, ?_, ?_, ?_, (h7.trans (hb.mono (by omega))).trans hbw⟩, hbw⟩
  · rw [List.map_append, h1, List.take_succ_eq_append_getElem hk, ← hz]; rfl
  · rw [List.map_append]
    exact hown'.kept (grownBy_setc w3 _ _) (.inr (fun e => hn3.not_row hown' e.symm))
  · intro x hx
    rcases List.mem_append.1 hx with hx | hx
    · refine (h5 x hx).kept (fun b hb1 => ?_) (fun b hb1 => ?_)
      · obtain ⟨q1, q2, q3, q4⟩ := hb1
        exact ⟨q1, by rw [hsz]; omega, q3, notg b (by omega) q4⟩
      · obtain ⟨q1, q2, q3, q4⟩ := hb1
        exact (far b (by omega) q3 q4).trans (hb.block b q2)
    · simp at hx
      subst hx
      have hvb : ∀ b, wr.heap.size ≤ b → some b ≠ v.ownBlock := fun b h e => by have := own_lt h4 e.symm; omega
      refine hT.kept (fun b hb1 => ?_) (fun b hb1 => ?_)
      · exact ⟨by omega, by rw [hsz]; omega, by omega, notg b (by omega) (hvb b hb1.1)⟩
      · exact far b hb1.2 (by omega) (hvb b hb1.1)
  · rw [List.map_append, List.flatten_append, List.map_append, List.nodup_append]
    refine ⟨h6, by simpa using hnd, fun a ha a' ha' => ?_⟩
    obtain ⟨x, hx, rfl⟩ := List.mem_map.1 ha
    obtain ⟨l, hl', hx⟩ := List.mem_flatten.1 hx
    obtain ⟨q, hq, rfl⟩ := List.mem_map.1 hl'
    have q1 := (h5 q hq).blocks x hx
    have q2 : wr.heap.size ≤ a' := by
      obtain ⟨y, hy, rfl⟩ := List.mem_map.1 ha'
      simp at hy
      exact (hT.blocks y hy).1
    have := q1.2.1
    omega

theorem kids_end {w wr : World} {f : Nat} {c : C} {ks : List (List C)} {v : Value} {zs : List (Nat × List (Nat × C))} (hK : Kids w f c ks ks.length v zs wr) (h3 : ks.length ≤ 3) (ha : (ks.length : Int) = ari c) :
    ∃ z, z.map (·.2) = c :: ks.flatten ∧ (z.map (·.1)).Nodup ∧ Tre (fun b => w.heap.size ≤ b ∧ b < wr.heap.size) wr (f + 1) w.heap.size z := by
  obtain ⟨h1, h2, hn, h4, h5, h6, h7⟩ := hK
  have hl := hn.lt
  rw [List.take_length] at h1
  refine ⟨(w.heap.size, c) :: (zs.map (·.2)).flatten, ?_, ?_, ?_⟩
  · rw [List.map_cons, List.map_flatten, List.map_map, ← h1]; rfl
  · rw [List.map_cons, List.nodup_cons]
    refine ⟨fun hm => ?_, h6⟩
    obtain ⟨x, hx, e⟩ := List.mem_map.1 hm
    obtain ⟨l, hl', hx⟩ := List.mem_flatten.1 hx
    obtain ⟨q, hq, rfl⟩ := List.mem_map.1 hl'
    exact ((h5 q hq).blocks x hx).2.2.1 e
  · have hks : ∀ k ∈ zs, Tre (fun b => w.heap.size ≤ b ∧ b < wr.heap.size) wr f k.1 k.2 := fun k hk => (h5 k hk).kept (fun b hb => ⟨by have := hb.1; omega, hb.2.1⟩) (fun b _ => rfl)
    rcases h4.2 with ⟨rfl, h0⟩ | ⟨g, cap, cur, rfl, hge, hgb, _⟩
    · have hz0 : zs = [] := List.length_eq_zero_iff.1 (by omega)
      subst hz0
      exact ⟨c, [], none, 0, rfl, ⟨Nat.le_refl _, hl⟩, ⟨by simp, by rw [← ha, ← h2]⟩, hn, .inl rfl, by simp⟩
    · refine ⟨c, zs, some ⟨g, 0, none⟩, cap, rfl, ⟨Nat.le_refl _, hl⟩, ⟨by omega, by rw [h2]; exact ha⟩, by rw [h2]; exact hn, .inr ⟨g, rfl, ⟨hge, (Array.getElem?_eq_some_iff.1 hgb).1⟩, fun i hi => ?_⟩, hks⟩
      have := h4.cellAt i (by omega)
      rw [this, List.getElem?_map, List.getElem?_eq_getElem hi]
      rfl

/-- What firstTree hands back. -/
def Got (n₀ : Nat) (w : World) (f : Nat) (t r : List C) (e : Ending) (w' : World) : Prop := ∃ p z v', e = .returned (.tuple #[.pointer (some ⟨p, 0, none⟩), v']) ∧ z.map (·.2) = t ∧ (z.map (·.1)).Nodup ∧
        Tre (fun b => w.heap.size ≤ b ∧ b < w'.heap.size) w' f p z ∧ Sl n₀ w' v' r ∧ Below w.heap.size w w'

end Go.Proofs.Ytkedckmpjedjoaa

/- The walks of firstTree and treeOf. -/
namespace Go.Proofs.Ytkedckmpjedjoaa
open Go.RowKit Go.Shelf
set_option linter.unusedVariables false
set_option linter.unusedSimpArgs false

set_option maxRecDepth 100000 in
set_option maxHeartbeats 4000000 in
theorem first_any (n₀ : Nat) : ∀ (f : Nat) (t r : List C) (v : Value) (w : World), Tm f t → (∀ c ∈ t, okC c = true) → (t ++ r).length ≤ 1048576 → n₀ ≤ w.heap.size → Sl n₀ w v (t ++ r) →
      Calls Try.prog 153 #[v] w (Got n₀ w f t r)
  | 0, _, _, _, _, h, _, _, _, _ => h.elim
  | f + 1, t, r, v, w, hT, hok, hm, hn₀, hv => by
    have ih := first_any n₀ f
    obtain ⟨c, ks, rfl, hkl, hks⟩ := hT
    obtain ⟨ao, cap, rfl, hcap, hcm, hR⟩ := hv
    have hA : ∃ b off, ao = some ⟨b, off, none⟩ ∧ b < n₀ ∧ At w b off (c :: (ks.flatten ++ r)) := by
      rcases hR with h | h
      · cases h
      · exact h
    obtain ⟨b, off, rfl, hbn, hA⟩ := hA
    obtain ⟨c0, c1, c2⟩ := hA 0 (by simp)
    simp at c0 c1 c2
    have ha := ari_ok (hok c (by simp))
    have hbl := World.block_lt_of_cell? w ⟨b, off, none⟩ c0
    obtain ⟨u, hu⟩ : ∃ u, u = ks.flatten ++ r := ⟨_, rfl⟩
    rw [← hu] at hA
    rw [List.cons_append, ← hu] at hcap hm ⊢
    simp only [List.length_cons] at hcap hm ⊢
    have HA := hide hA
    have HU := hide hu
    have HKS := hide hks
    have HOK := hide hok
    have HKL := hide hkl
    have HCM := hide hcm
    have HIH := hide ih
    clear hA hu hks hok hkl hcm ih hR
    obtain ⟨i0, hi, hz0, hz1, hz2⟩ := info_parts (show (Try.prog.info? 100).map (fun i => (i.zero, i.size, i.bytes)) = some (some (.pointer none), 1, 8) by kernel_rfl)
    go_enter Try.func153, Try.ntmps153
    go_wp2_with fail
    go_region
    have hR0 : u = [] ∨ ∃ b' off', (if cap = 1 then some (⟨b, off, none⟩ : Addr) else some ⟨b, off + 3, none⟩) = some ⟨b', off', none⟩ ∧ b' < n₀ ∧ At w b' off' u := by
      by_cases hc1 : cap = 1
      · exact .inl (List.length_eq_zero_iff.1 (by omega))
      · rw [if_neg hc1]
        refine .inr ⟨b, off + 3, rfl, hbn, fun i hi => ?_⟩
        have := unhide HA (i + 1) (by simp; omega)
        simp only [List.getElem_cons_succ] at this
        rw [show off + 3 + i * 3 = off + (i + 1) * 3 by omega]
        exact this
    have hb0 : Below w.heap.size w (w.alloc (.cells #[.int .i64 c.k, .int .i64 c.n, .string c.s, .slice none 0 0] 159)).drew := ((Below.refl _ w).alloc (Nat.le_refl _) _).drew
    have hn0 : Node (w.alloc (.cells #[.int .i64 c.k, .int .i64 c.n, .string c.s, .slice none 0 0] 159)).drew w.heap.size c (.slice none 0 0) := World.alloc_heap_new w _
    generalize (if cap = 1 then some (⟨b, off, none⟩ : Addr) else some ⟨b, off + 3, none⟩) = a0 at hR0 ⊢
    have hS0 : Sl n₀ w (.slice a0 u.length (cap - 1)) u := ⟨a0, cap - 1, rfl, by omega, by have := unhide HCM; omega, hR0⟩
    have d0 := (hb0.cell (p := ⟨b, off, none⟩) hbl).trans c0
    have d1 := (hb0.cell (p := ⟨b, off + 1, none⟩) hbl).trans c1
    have d2 := (hb0.cell (p := ⟨b, off + 2, none⟩) hbl).trans c2
    generalize (w.alloc (.cells #[.int .i64 c.k, .int .i64 c.n, .string c.s, .slice none 0 0] 159)).drew = w0 at hb0 hn0 d0 d1 d2 ⊢
    go_wp2_with (go_at_call 129; refine (cellArity_any c _).mono ?_; rintro e w1 ⟨rfl, hb1⟩)
    rw [← unhide HKL] at ha ⊢
    have hk3 : ks.length ≤ 3 := by omega
    have hK1 : Kids w f c ks 0 (.slice none 0 0) [] w1 := ⟨by simp, rfl, (hb1.block _ hn0.lt).trans hn0, World.ownsRow_nil _ _ _ _, by simp, by simp, bstep hb0 hb1⟩
    go_loopw [5, 18] (fun rest i wr => ∃ (k : Nat) (v : Value) (zs : List (Nat × List (Nat × C))), k ≤ ks.length ∧ i = .int .i64 k ∧ Sl n₀ wr rest ((ks.drop k).flatten ++ r) ∧ Kids w f c ks k v zs wr) (fun _ i _ => ks.length - (intOf i).toNat)
    case atStart =>
      refine ⟨0, _, [], Nat.zero_le _, rfl, ?_, hK1⟩
      rw [List.drop_zero, ← unhide HU]
      exact hS0.below ((bstep hb0 hb1).mono hn₀)
    case round =>
      obtain ⟨k, v, zs, hk, rfl, hS, hK⟩ := hrel
      by_cases hlt : k < ks.length
      · have hdr : (ks.drop k).flatten ++ r = ks[k] ++ ((ks.drop (k + 1)).flatten ++ r) := by rw [List.drop_eq_getElem_cons hlt, List.flatten_cons, List.append_assoc]
        rw [hdr] at hS
        obtain ⟨h1, h2, h3, h4, h5, h6, h7⟩ := id hK
        have hsz := h7.size
        have hPl := h3.lt
        have HI := hide (unhide HIH ks[k] ((ks.drop (k + 1)).flatten ++ r) _ wr (unhide HKS _ (List.getElem_mem hlt)) (fun c' hc' => unhide HOK c' (by simp; exact .inr ⟨_, List.getElem_mem hlt, hc'⟩)) (by
          have e1 := congrArg List.length hdr
          have e2 : ((ks.drop k).flatten ++ r).length ≤ u.length := by
            rw [unhide HU]
            conv => rhs; rw [← List.take_append_drop k ks]
            simp only [List.flatten_append, List.length_append]
            omega
          omega) (by omega) hS)
        have HK := hide hK
        have HN := hide h3
        have HO := hide h4
        clear hdr hS h1 h2 h3 h4 h5 h6 hK hR0 hS0 hK1
        go_wp2_with (first
          | (go_at_call 153; refine (unhide HI).mono ?_; clear HI; rintro e w2 ⟨p, z, v', rfl, hz, hnd, hT, hS', hb2⟩; have hq := hide hz; have hq2 := hide hnd; have hq3 := hide hT; have hq4 := hide hS'; clear hz hnd hT hS'; have hsz2 := hb2.size; have hc3 : w2.cell? ⟨w.heap.size, 3, none⟩ = some v := Node.cell ((hb2.block _ hPl).trans (unhide HN)))
          | (at_builtin; refine wpList_append_lies _ rfl (.tmp 29) (.tmp 31) 157 rfl w.heap.size 100 i0 _ 1 8 Try.underlying157 hi hz0 hz1 hz2 rfl (by decide) v k _ rfl (World.ownsRow.alloc (own_below (unhide HO) hb2) _) ⟨w2.heap.size, 0, none⟩ 1 1 [.pointer (some ⟨p, 0, none⟩)] rfl rfl (cell_one_new _ _ _) (by simp [Value.oneCell']) (by omega) (by unfold maxLen; omega) (by omega) (by simp; omega) (w2.heap.size + 1) (by simp) ?_; intro g' cap' w3 hown' hgrow hat hgl; have hn3 := kids_node (unhide HK) hb2 hgrow; have hs3 := hn3.cell; have hf3 := hn3.frozen; have HST := hide (kids_step (unhide HK) hlt hb2 (unhide hq3) (unhide hq) (unhide hq2) hown' hgrow hat); clear hn3 hown' hgrow hat hgl))
        go_roundw
        case rel =>
          refine ⟨k + 1, _, _, by omega, by go_num, ?_, (unhide HST).1⟩
          exact (unhide hq4).below ((unhide HST).2.mono hn₀)
        case measure => simp [intOf]; omega
      · have e : k = ks.length := by omega
        subst e
        rw [List.drop_length] at hS
        obtain ⟨z, hz, hnd, hT⟩ := kids_end hK hk3 (unhide HKL)
        have hB := hK.2.2.2.2.2.2
        go_wp2
        go_ret2
        exact ⟨_, z, _, rfl, hz, hnd, hT, hS, hB⟩

/-- treeOf of a term. -/
def GotT (n₀ : Nat) (w : World) (t : List C) (e : Ending) (w' : World) : Prop := ∃ p z, e = .returned (.pointer (some ⟨p, 0, none⟩)) ∧ z.map (·.2) = t ∧ (z.map (·.1)).Nodup ∧
        Tre (fun b => w.heap.size ≤ b ∧ b < w'.heap.size) w' t.length p z ∧ Below w.heap.size w w'

set_option maxHeartbeats 400000 in
theorem treeOf_yes (n₀ : Nat) (ao : Option Addr) (cap : Nat) (t : List C) (w : World) (hcap : t.length ≤ cap) (hcm : cap ≤ maxLen) (hn₀ : n₀ ≤ w.heap.size) (hA : Row w ao t) (hF : Fit t) (hy : trm t = true) :
    Calls Try.prog 116 #[.slice ao t.length cap] w (GotT n₀ w t) := by
  have hl := trm_len hy
  have H := hide (TrmOk_any ao cap t w (by omega) hA hF)
  rw [hy] at H
  have HS : Hid (Sl w.heap.size w (.slice ao t.length cap) (t ++ [])) := by
    refine ⟨ao, cap, by rw [List.append_nil], by rw [List.append_nil]; exact hcap, hcm, ?_⟩
    rw [List.append_nil]
    exact hA.imp_right fun ⟨b, off, e, h⟩ => ⟨b, off, e, h.lt (by omega), h⟩
  have HT := hide (trm_tree hy)
  have HOK := hide ((trm_iff t).1 hy).2.2.1
  go_enter Try.func116, Try.ntmps116
  go_wp2_with (first | (go_at_call 82; refine (unhide H).mono ?_; rintro e w1 ⟨rfl, hb1⟩) | (go_at_call 153; refine (first_any w.heap.size t.length t [] _ _ (unhide HT) (unhide HOK) (by simp; omega) hb1.size ((unhide HS).below hb1)).mono ?_; rintro e w2 ⟨p, z, v', rfl, hz, hnd, hT, _, hb2⟩; have HZ := hide (And.intro hz (And.intro hnd hT)); clear hz hnd hT))
  go_ret
  obtain ⟨hz, hnd, hT⟩ := unhide HZ
  exact ⟨p, z, rfl, hz, hnd, hT.kept (fun b hb => ⟨by have := hb1.size; omega, hb.2⟩) (fun _ _ => rfl), bstep hb1 hb2⟩
end Go.Proofs.Ytkedckmpjedjoaa
