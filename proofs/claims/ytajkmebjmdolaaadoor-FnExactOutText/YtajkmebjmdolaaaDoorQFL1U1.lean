import Derived.Test.YtajkmebjmdolaaaDoorQD3D4SG1SL1SO1
import Derived.Deep.LoopGhost
import Derived.Deep.AppendLies
import Derived.Deep.RegionHeld3
/- The walk of l2Full, the specification's way to lay in what is bound. -/
namespace Go.Proofs.YtajkmebjmdolaaaDoor
open Go.RowKit
set_option linter.unusedVariables false
set_option linter.unusedSimpArgs false

theorem three_at (w : World) (x y z : Value) (T N : Nat) (hN : w.heap.size = N) : ∀ j u, [x, y, z][j]? = some u → (w.alloc (.cells #[x, y, z] T)).cell? ((⟨N, 0, none⟩ : Addr).add j) = some u := by
  subst hN
  exact cell_three_new w x y z T

/-- A slice with an address that leads to places. -/
def Td (w : World) (v : Value) (t : List C) : Prop := ∃ b off cap, v = .slice (some ⟨b, off, none⟩) t.length cap ∧ At w b off t ∧ t.length ≤ cap ∧ cap ≤ maxLen ∧ b < w.heap.size

theorem Td.apart {w w1 : World} {v : Value} {t : List C} {row : Option Nat} (h : Td w v t) (hg : w.grownBy w1 row) (hr : v.ownBlock ≠ row) : Td w1 v t := by
  obtain ⟨b, off, cap, rfl, hA, h1, h2, h3⟩ := h
  exact ⟨b, off, cap, rfl, hA.kept (hg.block b h3 hr), h1, h2, Nat.lt_of_lt_of_le h3 hg.size⟩
theorem Td.below {w w1 : World} {v : Value} {t : List C} (h : Td w v t) (hb : Below w.heap.size w w1) : Td w1 v t := by
  obtain ⟨b, off, cap, rfl, hA, h1, h2, h3⟩ := h
  exact ⟨b, off, cap, rfl, hA.below hb, h1, h2, Nat.lt_of_lt_of_le h3 hb.size⟩

theorem own_td {w : World} {base : Nat} {v : Value} {t : List C} (h : OwnC w base v t) (hp : 1 ≤ t.length) : Td w v t ∧ v.ownBlock ≠ none := by
  have h' := h
  rcases h.2 with ⟨e, hn⟩ | ⟨g, cap, cur, e, hg, hh, hc, hm, _⟩
  · omega
  · subst e
    exact ⟨⟨g, 0, cap, rfl, owns_at h' rfl, hc, hm, (Array.getElem?_eq_some_iff.1 hh).1⟩, by simp [Value.ownBlock]⟩

theorem td_tail {w : World} {b off cap : Nat} {c : C} {t : List C} (hA : At w b off (c :: t)) (h1 : (c :: t).length ≤ cap) (h2 : cap ≤ maxLen) (h3 : b < w.heap.size) : ∃ off', (if cap = 1 then some (⟨b, off, none⟩ : Addr) else some ⟨b, off + 3, none⟩) = some ⟨b, off', none⟩ ∧ Td w (.slice (some ⟨b, off', none⟩) t.length (cap - 1)) t := by
  have hl : t.length + 1 ≤ cap := by simpa using h1
  by_cases hc : cap = 1
  · have ht : t = [] := List.length_eq_zero_iff.1 (by omega)
    subst ht
    exact ⟨off, by rw [if_pos hc], b, off, cap - 1, rfl, fun i hi => by simp at hi, by simp, by omega, h3⟩
  · refine ⟨off + 3, by rw [if_neg hc], b, off + 3, cap - 1, rfl, fun i hi => ?_, by omega, by omega, h3⟩
    have := hA (i + 1) (by first | omega | (simp; omega))
    simp only [List.getElem_cons_succ] at this
    rw [show off + 3 + i * 3 = off + (i + 1) * 3 by omega]
    exact this

/-- How far l2Full has come. -/
def FullAt (s : List B) (t' : List C) (w : World) (k : Nat) (ov tv : Value) (wr : World) : Prop :=
  ∃ o td rest, Exp s k td rest ∧ o ++ rest = t' ∧ o.length + td.length ≤ 40 ∧ OwnC wr w.heap.size ov o ∧ Td wr tv td ∧ tv.ownBlock ≠ ov.ownBlock ∧ tv.ownBlock ≠ none ∧ Below w.heap.size w wr

/-- What l2Full tells. -/
def FullOut (t' : List C) (w : World) (e : Ending) (w' : World) : Prop :=
  ∃ v, OwnC w' w.heap.size v (if t'.length ≤ 40 then t' else []) ∧ e = .returned (.tuple #[v, .bool (decide (t'.length ≤ 40))]) ∧ Below w.heap.size w w'

theorem full_yes {t' : List C} {w w' : World} {v : Value} (h : OwnC w' w.heap.size v t') (hl : t'.length ≤ 40) (hb : Below w.heap.size w w') : FullOut t' w (.returned (.tuple #[v, .bool true])) w' :=
  ⟨v, by rw [if_pos hl]; exact h, by rw [decide_eq_true hl], hb⟩
theorem full_no {t' : List C} {w w' : World} {v : Value} (h : OwnC w' w.heap.size v []) (hl : ¬ t'.length ≤ 40) (hb : Below w.heap.size w w') : FullOut t' w (.returned (.tuple #[v, .bool false])) w' :=
  ⟨v, by rw [if_neg hl]; exact h, by rw [decide_eq_false hl], hb⟩

end Go.Proofs.YtajkmebjmdolaaaDoor

/- Rows that are known to be places; bindings with one more; the walk of the specification's l2Copy. -/
namespace Go.Proofs.YtajkmebjmdolaaaDoor
open Go.RowKit
set_option linter.unusedVariables false
set_option linter.unusedSimpArgs false

theorem rows_apart {w : World} {base base' e e' size size' n n' : Nat} {v v' : Value} {xs xs' : List Value} (h : w.ownsRow base e size v n xs) (h' : w.ownsRow base' e' size' v' n' xs') (he : e ≠ e') : v.ownBlock = none ∨ v.ownBlock ≠ v'.ownBlock := by
  rcases h.2 with ⟨rfl, _⟩ | ⟨g, cap, cur, rfl, _, hg, _⟩
  · exact .inl rfl
  · rcases h'.2 with ⟨rfl, _⟩ | ⟨g', cap', cur', rfl, _, hg', _⟩
    · right; simp [Value.ownBlock]
    · right
      simp only [Value.ownBlock, ne_eq, Option.some.injEq]
      rintro rfl
      rw [hg] at hg'
      simp at hg'
      exact he hg'.2

/-- Bindings with one more. -/
theorem ownB_push {W W1 : World} {lo hi hi' : Nat} {v u : Value} {s : List B} {us : List Value} {x : B} {g' cap' : Nat} (h1 : us.length = s.length) (h2 : W.ownsRow lo 125 2 v s.length (flatB s us)) (h3 : ∀ i, (h : i < s.length) → (h' : i < us.length) → OwnC W lo us[i] s[i].t) (h4 : (us.filterMap Value.ownBlock).Nodup)
    (h5 : ∀ u ∈ us, ∀ k, u.ownBlock = some k → k < hi) (hu : OwnC W lo u x.t) (hun : ∀ k, u.ownBlock = some k → hi ≤ k)
    (hown : W1.ownsRow lo 125 2 (.slice (some ⟨g', 0, none⟩) (s.length + 1) cap') (s.length + 1) (flatB s us ++ [.int .i64 x.v, u])) (hk : ∀ k, k < W.heap.size → some k ≠ v.ownBlock → W1.heap[k]? = W.heap[k]?) (hs : W.heap.size ≤ hi') (hg : g' < hi') :
    OwnB W1 lo hi' (.slice (some ⟨g', 0, none⟩) (s ++ [x]).length cap') (s ++ [x]) := by
  have key : ∀ {z : Value} {t : List C}, OwnC W lo z t → OwnC W1 lo z t := fun {z t} hz => own_block hz (fun k e => hk k (hz.lt k e).2 (fun e' => by
    rcases rows_apart hz h2 (by decide) with h | h
    · rw [h] at e; cases e
    · exact h (e.trans e')))
  refine ⟨us ++ [u], by simp [h1], ?_, fun i hi' hi'' => ?_, ?_, fun z hz k e => ?_, fun k e => ?_⟩
  · rw [flatB_append s [x] us [u] h1, List.length_append]
    exact hown
  · by_cases hl : i < s.length
    · rw [List.getElem_append_left hl, List.getElem_append_left (by omega)]
      exact key (h3 i hl (by omega))
    · have e : i = s.length := by simp at hi'; omega
      subst e
      rw [List.getElem_append_right (by omega), List.getElem_append_right (by omega)]
      simpa [h1] using key hu
  · rw [List.filterMap_append, List.nodup_append]
    refine ⟨h4, ?_, fun a ha b hb => ?_⟩
    · cases e : u.ownBlock <;> simp [e]
    · obtain ⟨z, hz, e⟩ := List.mem_filterMap.1 ha
      have q1 := h5 z hz a e
      have q2 : u.ownBlock = some b := by simpa using hb
      have q3 := hun b q2
      omega
  · rcases List.mem_append.1 hz with hz | hz
    · obtain ⟨i, hi1, rfl⟩ := List.getElem_of_mem hz
      have := ((h3 i (by omega) hi1).lt k e).2
      omega
    · simp at hz; subst hz
      have := (hu.lt k e).2
      omega
  · have : g' = k := by simpa [Value.ownBlock] using e
    omega

/-- A slice of places, in a block of places. -/
def TdT (w : World) (v : Value) (t : List C) : Prop := ∃ b off cap cur, v = .slice (some ⟨b, off, none⟩) t.length cap ∧ At w b off t ∧ t.length ≤ cap ∧ cap ≤ maxLen ∧ w.heap[b]? = some (.cells cur 57)

theorem TdT.lt {w : World} {v : Value} {t : List C} (h : TdT w v t) : ∀ k, v.ownBlock = some k → k < w.heap.size := by
  obtain ⟨b, off, cap, cur, rfl, _, _, _, hh⟩ := h
  intro k e
  have : b = k := by simpa [Value.ownBlock] using e
  subst this
  exact (Array.getElem?_eq_some_iff.1 hh).1
theorem TdT.kept {w w' : World} {v : Value} {t : List C} (h : TdT w v t) (hk : ∀ k, v.ownBlock = some k → w'.heap[k]? = w.heap[k]?) : TdT w' v t := by
  obtain ⟨b, off, cap, cur, rfl, hA, h1, h2, hh⟩ := h
  have e := hk b (by simp [Value.ownBlock])
  exact ⟨b, off, cap, cur, rfl, hA.kept e, h1, h2, e.trans hh⟩
theorem TdT.below {w w' : World} {v : Value} {t : List C} (h : TdT w v t) (hb : Below w.heap.size w w') : TdT w' v t := h.kept (fun k e => hb.block k (h.lt k e))
theorem TdT.apart {w w' : World} {v sv : Value} {t : List C} {base n : Nat} {xs : List Value} {e size : Nat} (h : TdT w v t) (hg : w.grownBy w' sv.ownBlock) (ho : w.ownsRow base e size sv n xs) (he : e ≠ 57) : TdT w' v t := by
  refine h.kept (fun k ek => hg.block k (h.lt k ek) (fun e' => ?_))
  obtain ⟨b, off, cap, cur, rfl, hA, h1, h2, hh⟩ := h
  have hbk : b = k := by simpa [Value.ownBlock] using ek
  subst hbk
  rcases ho.2 with ⟨rfl, _⟩ | ⟨g, cap', cur', rfl, _, hg', _⟩
  · simp [Value.ownBlock] at e'
  · have : b = g := by simpa [Value.ownBlock] using e'
    subst this
    rw [hh] at hg'
    simp at hg'
    exact he hg'.2.symm
theorem own_tdT {w : World} {base : Nat} {v : Value} {t : List C} (h : OwnC w base v t) (hp : 1 ≤ t.length) : TdT w v t := by
  have h' := h
  rcases h.2 with ⟨e, hn⟩ | ⟨g, cap, cur, e, hg, hh, hc, hm, _⟩
  · omega
  · subst e
    exact ⟨g, 0, cap, cur, rfl, owns_at h' rfl, hc, hm, hh⟩

theorem two_at (w : World) (x y : Value) (T N : Nat) (hN : w.heap.size = N) : ∀ j u, [x, y][j]? = some u → (w.alloc (.cells #[x, y] T)).cell? ((⟨N, 0, none⟩ : Addr).add j) = some u := by
  subst hN
  intro j u h
  match j with
  | 0 => simp at h; subst h; simp [go_sem, Addr.add]
  | 1 => simp at h; subst h; simp [go_sem, Addr.add]
  | j + 2 => simp at h

end Go.Proofs.YtajkmebjmdolaaaDoor
