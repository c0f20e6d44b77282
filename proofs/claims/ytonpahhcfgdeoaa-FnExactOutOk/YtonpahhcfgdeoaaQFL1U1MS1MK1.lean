import Derived.Test.YtonpahhcfgdeoaaQD3D4SG1SL1SO1
import Derived.Deep.LoopGhost
import Derived.Deep.AppendLies
import Derived.Deep.RegionHeld3
import Derived.Test.YtonpahhcfgdeoaaQLD2
/- The walk of l2Full, the specification's way to lay in what is bound. -/
namespace Go.Proofs.Ytonpahhcfgdeoaa
open Go.RowKit
set_option linter.unusedVariables false
set_option linter.unusedSimpArgs false

theorem three_at (w : World) (x y z : Value) (T N : Nat) (hN : w.heap.size = N) : ∀ j u, [x, y, z][j]? = some u → (w.alloc (.cells #[x, y, z] T)).cell? ((⟨N, 0, none⟩ : Addr).add j) = some u := by
  subst hN
  exact cell_three_new w x y z T

/-- A slice with an address that leads to places. -/
def Td (w : World) (v : Value) (t : List C) : Prop := ∃ b off cap, v = .slice (some ⟨b, off, none⟩) t.length cap ∧ At w b off t ∧ t.length ≤ cap ∧ cap ≤ maxLen ∧ b < w.heap.size

theorem Td.apart {w w1 : World} {v : Value} {t : List C} {row : Option Nat} (h : Td w v t) (hg : w.grownBy w1 row) (hr : v.ownBlock ≠ row) : Td w1 v t := by
  obtain ⟨b, off, cap, rfl, hA, h1, h2, h3⟩ := h
  exact ⟨b, off, cap, rfl, hA.kept (hg.block b h3 hr), h1, h2, Nat.lt_of_lt_of_le h3 hg.size⟩
theorem Td.below {w w1 : World} {v : Value} {t : List C} (h : Td w v t) (hb : Below w.heap.size w w1) : Td w1 v t := by
  obtain ⟨b, off, cap, rfl, hA, h1, h2, h3⟩ := h
  exact ⟨b, off, cap, rfl, hA.below hb, h1, h2, Nat.lt_of_lt_of_le h3 hb.size⟩

theorem own_td {w : World} {base : Nat} {v : Value} {t : List C} (h : OwnC w base v t) (hp : 1 ≤ t.length) : Td w v t ∧ v.ownBlock ≠ none := by
  have h' := h
  rcases h.2 with ⟨e, hn⟩ | ⟨g, cap, cur, e, hg, hh, hc, hm, _⟩
  · omega
  · subst e
    exact ⟨⟨g, 0, cap, rfl, owns_at h' rfl, hc, hm, (Array.getElem?_eq_some_iff.1 hh).1⟩, by simp [Value.ownBlock]⟩

theorem td_tail {w : World} {b off cap : Nat} {c : C} {t : List C} (hA : At w b off (c :: t)) (h1 : (c :: t).length ≤ cap) (h2 : cap ≤ maxLen) (h3 : b < w.heap.size) : ∃ off', (if cap = 1 then some (⟨b, off, none⟩ : Addr) else some ⟨b, off + 3, none⟩) = some ⟨b, off', none⟩ ∧ Td w (.slice (some ⟨b, off', none⟩) t.length (cap - 1)) t := by
  have hl : t.length + 1 ≤ cap := by simpa using h1
  by_cases hc : cap = 1
  · have ht : t = [] := List.length_eq_zero_iff.1 (by omega)
    subst ht
    exact ⟨off, by rw [if_pos hc], b, off, cap - 1, rfl, fun i hi => by simp at hi, by simp, by omega, h3⟩
  · refine ⟨off + 3, by rw [if_neg hc], b, off + 3, cap - 1, rfl, fun i hi => ?_, by omega, by omega, h3⟩
    have := hA (i + 1) (by first | omega | (simp; omega))
    simp only [List.getElem_cons_succ] at this
    rw [show off + 3 + i * 3 = off + (i + 1) * 3 by omega]
    exact this

/-- How far l2Full has come. -/
def FullAt (s : List B) (t' : List C) (w : World) (k : Nat) (ov tv : Value) (wr : World) : Prop :=
  ∃ o td rest, Exp s k td rest ∧ o ++ rest = t' ∧ o.length + td.length ≤ 40 ∧ OwnC wr w.heap.size ov o ∧ Td wr tv td ∧ tv.ownBlock ≠ ov.ownBlock ∧ tv.ownBlock ≠ none ∧ Below w.heap.size w wr

/-- What l2Full tells. -/
def FullOut (t' : List C) (w : World) (e : Ending) (w' : World) : Prop :=
  ∃ v, OwnC w' w.heap.size v (if t'.length ≤ 40 then t' else []) ∧ e = .returned (.tuple #[v, .bool (decide (t'.length ≤ 40))]) ∧ Below w.heap.size w w'

theorem full_yes {t' : List C} {w w' : World} {v : Value} (h : OwnC w' w.heap.size v t') (hl : t'.length ≤ 40) (hb : Below w.heap.size w w') : FullOut t' w (.returned (.tuple #[v, .bool true])) w' :=
  ⟨v, by rw [if_pos hl]; exact h, by rw [decide_eq_true hl], hb⟩
theorem full_no {t' : List C} {w w' : World} {v : Value} (h : OwnC w' w.heap.size v []) (hl : ¬ t'.length ≤ 40) (hb : Below w.heap.size w w') : FullOut t' w (.returned (.tuple #[v, .bool false])) w' :=
  ⟨v, by rw [if_neg hl]; exact h, by rw [decide_eq_false hl], hb⟩

end Go.Proofs.Ytonpahhcfgdeoaa

/- Rows that are known to be places; bindings with one more; the walk of the specification's l2Copy. -/
namespace Go.Proofs.Ytonpahhcfgdeoaa
open Go.RowKit
set_option linter.unusedVariables false
set_option linter.unusedSimpArgs false

theorem rows_apart {w : World} {base base' e e' size size' n n' : Nat} {v v' : Value} {xs xs' : List Value} (h : w.ownsRow base e size v n xs) (h' : w.ownsRow base' e' size' v' n' xs') (he : e ≠ e') : v.ownBlock = none ∨ v.ownBlock ≠ v'.ownBlock := by
  rcases h.2 with ⟨rfl, _⟩ | ⟨g, cap, cur, rfl, _, hg, _⟩
  · exact .inl rfl
  · rcases h'.2 with ⟨rfl, _⟩ | ⟨g', cap', cur', rfl, _, hg', _⟩
    · right; simp [Value.ownBlock]
    · right
      simp only [Value.ownBlock, ne_eq, Option.some.injEq]
      rintro rfl
      rw [hg] at hg'
      simp at hg'
      exact he hg'.2

/-- Bindings with one more. -/
theorem ownB_push {W W1 : World} {lo hi hi' : Nat} {v u : Value} {s : List B} {us : List Value} {x : B} {g' cap' : Nat} (h1 : us.length = s.length) (h2 : W.ownsRow lo 124 2 v s.length (flatB s us)) (h3 : ∀ i, (h : i < s.length) → (h' : i < us.length) → OwnC W lo us[i] s[i].t) (h4 : (us.filterMap Value.ownBlock).Nodup)
    (h5 : ∀ u ∈ us, ∀ k, u.ownBlock = some k → k < hi) (hu : OwnC W lo u x.t) (hun : ∀ k, u.ownBlock = some k → hi ≤ k)
    (hown : W1.ownsRow lo 124 2 (.slice (some ⟨g', 0, none⟩) (s.length + 1) cap') (s.length + 1) (flatB s us ++ [.int .i64 x.v, u])) (hk : ∀ k, k < W.heap.size → some k ≠ v.ownBlock → W1.heap[k]? = W.heap[k]?) (hs : W.heap.size ≤ hi') (hg : g' < hi') :
    OwnB W1 lo hi' (.slice (some ⟨g', 0, none⟩) (s ++ [x]).length cap') (s ++ [x]) := by
  have key : ∀ {z : Value} {t : List C}, OwnC W lo z t → OwnC W1 lo z t := fun {z t} hz => own_block hz (fun k e => hk k (hz.lt k e).2 (fun e' => by
    rcases rows_apart hz h2 (by decide) with h | h
    · rw [h] at e; cases e
    · exact h (e.trans e')))
  refine ⟨us ++ [u], by simp [h1], ?_, fun i hi' hi'' => ?_, ?_, fun z hz k e => ?_, fun k e => ?_⟩
  · rw [flatB_append s [x] us [u] h1, List.length_append]
    exact hown
  · by_cases hl : i < s.length
    · rw [List.getElem_append_left hl, List.getElem_append_left (by omega)]
      exact key (h3 i hl (by omega))
    · have e : i = s.length := by simp at hi'; omega
      subst e
      rw [List.getElem_append_right (by omega), List.getElem_append_right (by omega)]
      simpa [h1] using key hu
  · rw [List.filterMap_append, List.nodup_append]
    refine ⟨h4, ?_, fun a ha b hb => ?_⟩
    · cases e : u.ownBlock <;> simp [e]
    · obtain ⟨z, hz, e⟩ := List.mem_filterMap.1 ha
      have q1 := h5 z hz a e
      have q2 : u.ownBlock = some b := by simpa using hb
      have q3 := hun b q2
      omega
  · rcases List.mem_append.1 hz with hz | hz
    · obtain ⟨i, hi1, rfl⟩ := List.getElem_of_mem hz
      have := ((h3 i (by omega) hi1).lt k e).2
      omega
    · simp at hz; subst hz
      have := (hu.lt k e).2
      omega
  · have : g' = k := by simpa [Value.ownBlock] using e
    omega

/-- A slice of places, in a block of places. -/
def TdT (w : World) (v : Value) (t : List C) : Prop := ∃ b off cap cur, v = .slice (some ⟨b, off, none⟩) t.length cap ∧ At w b off t ∧ t.length ≤ cap ∧ cap ≤ maxLen ∧ w.heap[b]? = some (.cells cur 67)

theorem TdT.lt {w : World} {v : Value} {t : List C} (h : TdT w v t) : ∀ k, v.ownBlock = some k → k < w.heap.size := by
  obtain ⟨b, off, cap, cur, rfl, _, _, _, hh⟩ := h
  intro k e
  have : b = k := by simpa [Value.ownBlock] using e
  subst this
  exact (Array.getElem?_eq_some_iff.1 hh).1
theorem TdT.kept {w w' : World} {v : Value} {t : List C} (h : TdT w v t) (hk : ∀ k, v.ownBlock = some k → w'.heap[k]? = w.heap[k]?) : TdT w' v t := by
  obtain ⟨b, off, cap, cur, rfl, hA, h1, h2, hh⟩ := h
  have e := hk b (by simp [Value.ownBlock])
  exact ⟨b, off, cap, cur, rfl, hA.kept e, h1, h2, e.trans hh⟩
theorem TdT.below {w w' : World} {v : Value} {t : List C} (h : TdT w v t) (hb : Below w.heap.size w w') : TdT w' v t := h.kept (fun k e => hb.block k (h.lt k e))
theorem TdT.apart {w w' : World} {v sv : Value} {t : List C} {base n : Nat} {xs : List Value} {e size : Nat} (h : TdT w v t) (hg : w.grownBy w' sv.ownBlock) (ho : w.ownsRow base e size sv n xs) (he : e ≠ 67) : TdT w' v t := by
  refine h.kept (fun k ek => hg.block k (h.lt k ek) (fun e' => ?_))
  obtain ⟨b, off, cap, cur, rfl, hA, h1, h2, hh⟩ := h
  have hbk : b = k := by simpa [Value.ownBlock] using ek
  subst hbk
  rcases ho.2 with ⟨rfl, _⟩ | ⟨g, cap', cur', rfl, _, hg', _⟩
  · simp [Value.ownBlock] at e'
  · have : b = g := by simpa [Value.ownBlock] using e'
    subst this
    rw [hh] at hg'
    simp at hg'
    exact he hg'.2.symm
theorem own_tdT {w : World} {base : Nat} {v : Value} {t : List C} (h : OwnC w base v t) (hp : 1 ≤ t.length) : TdT w v t := by
  have h' := h
  rcases h.2 with ⟨e, hn⟩ | ⟨g, cap, cur, e, hg, hh, hc, hm, _⟩
  · omega
  · subst e
    exact ⟨g, 0, cap, cur, rfl, owns_at h' rfl, hc, hm, hh⟩

theorem two_at (w : World) (x y : Value) (T N : Nat) (hN : w.heap.size = N) : ∀ j u, [x, y][j]? = some u → (w.alloc (.cells #[x, y] T)).cell? ((⟨N, 0, none⟩ : Addr).add j) = some u := by
  subst hN
  intro j u h
  match j with
  | 0 => simp at h; subst h; simp [go_sem, Addr.add]
  | 1 => simp at h; subst h; simp [go_sem, Addr.add]
  | j + 2 => simp at h

end Go.Proofs.Ytonpahhcfgdeoaa

/- The walks of bind and of tellBinds. -/
namespace Go.Proofs.Ytonpahhcfgdeoaa
open Go.RowKit Go.Maps
set_option linter.unusedVariables false
set_option linter.unusedSimpArgs false

/-- What is neither a map, nor a struct or list of bindings, stays. -/
def Keep3 (w w' : World) : Prop := w.heap.size ≤ w'.heap.size ∧ ∀ (b : Nat) (o : Obj), w.heap[b]? = some o → (∀ es c, o ≠ .map es c) → (∀ cur fr, o ≠ .cells cur 132 fr) → (∀ cur fr, o ≠ .cells cur 156 fr) → w'.heap[b]? = some o
theorem Keep3.trans {a b c : World} (h : Keep3 a b) (k : Keep3 b c) : Keep3 a c := ⟨Nat.le_trans h.1 k.1, fun i o h0 h1 h2 h3 => k.2 i o (h.2 i o h0 h1 h2 h3) h1 h2 h3⟩
theorem Keep3.of_below {a b : World} (h : Below a.heap.size a b) : Keep3 a b := ⟨h.size, fun i o h0 _ _ _ => (h.block i (Array.getElem?_eq_some_iff.1 h0).1).trans h0⟩
theorem keep_add {lo P M n g' cap' p : Nat} {W w1 w2 : World} {s : List B} {ov : Value} {D : DataW Unit} {rs : List Nat} {y : B} (h1 : Strt W P ov M) (h4 : OwnL W lo ov s rs) (h5 : W.ownsMap Try.prog 3 (plainElem Try.prog 3) M n D) (hg1 : W.grownBy w1 (some M))
    (hgrow : (w1.alloc (.cells #[.int .i64 y.v, .pointer (some ⟨p, 0, none⟩)] 156)).grownBy w2 ov.ownBlock) : Keep3 W (w2.setCell ⟨P, 0, none⟩ (.slice (some ⟨g', 0, none⟩) (s.length + 1) cap')) := by
  have hs0 := hg1.size
  have hs1 := hgrow.size
  simp at hs1
  refine ⟨by simp; omega, fun b o h0 q1 q2 q3 => ?_⟩
  have hbl := (Array.getElem?_eq_some_iff.1 h0).1
  have hbM : b ≠ M := by
    obtain ⟨es, clock, hm, _⟩ := h5
    rintro rfl
    rw [hm] at h0
    exact q1 _ _ (Option.some.inj h0).symm
  have hbP : b ≠ P := by
    rintro rfl
    have := (show W.heap[b]? = _ from h1).symm.trans h0
    exact q2 _ _ (Option.some.inj this).symm
  have hbo : some b ≠ ov.ownBlock := by
    rcases h4.1.2 with ⟨rfl, _⟩ | ⟨g, cap, cur, rfl, _, hgb, _⟩
    · simp [Value.ownBlock]
    · intro e'
      obtain rfl : b = g := by simpa [Value.ownBlock] using e'
      rw [hgb] at h0
      exact q3 _ _ (Option.some.inj h0).symm
  exact (Below.heap_setCell _ _ _ b hbP).trans ((hgrow.block b (by simp; omega) hbo).trans ((Below.heap_alloc w1 _ b (by omega)).trans ((hg1.block b hbl (by simpa using hbM)).trans h0)))

set_option maxRecDepth 100000 in
set_option maxHeartbeats 2000000 in
theorem add_any2 (lo P p : Nat) (S : Nat → Prop) (s : List B) (y : B) (w : World) (hs : s.length ≤ 4194304) (hB : Bnd lo w P S s) (hlo : lo ≤ w.heap.size) (hy : y.v ∉ s.map (·.v)) (hw : (Lit.int .i64 y.v).wf = true) (ht : TreeAt S w p y.t) :
    Calls Try.prog 97 #[.pointer (some ⟨P, 0, none⟩), .int .i64 y.v, .pointer (some ⟨p, 0, none⟩)] w fun e w' => (∃ v, e = .returned v) ∧ Added lo w P S (s ++ [y]) w' ∧ Keep3 w w' := by
  have hBd := hB.drew
  have htd : TreeAt S w.drew p y.t := ht.kept (fun _ h => h) (fun _ _ => rfl)
  obtain ⟨ov, M, n, D, rs, h1, h2, h3, h4, h5, h6, h7, h9, h10⟩ := hBd
  obtain ⟨i0, hi, hz0, hz1, hz2⟩ := info_parts Try.infoBound
  obtain ⟨c0, c1, f0⟩ := h1.cells
  have c0' : w.cell? ⟨P, 0, none⟩ = some ov := c0
  have c1' : w.cell? ⟨P, 1, none⟩ = some (.map (some M)) := c1
  have hPl := h1.lt
  have hn : n < maxLen := by unfold maxLen; omega
  have hwl : (Lit.int .i64 (s.length : Int)).wf = true := WalkArith.wf_i64 (by omega)
  obtain ⟨w1, hrun, hmap, hg1⟩ := h5.update (int_keyed Try.underlying3) (t := 127) (e := 3) Try.underlying127 hn (keyOf_int_mk Try.underlying3 hw) (plainElem_int Try.underlying3 hwl)
  obtain ⟨e1, e4⟩ := add_mid h1 h4 h5 hg1
  obtain ⟨d0, d1, d2⟩ := e1.cells
  have hPl1 := e1.lt
  have hs1 := hg1.size
  have HADD := hide (fun (w2 : World) (g' cap' : Nat) => bnd_add (w2 := w2) (g' := g') (cap' := cap') h1 h2 h3 h4 h5 h6 h7 h9 h10 hlo hy htd hmap hg1)
  have HB0 := hide (drew_below w)
  have HKP := hide (fun (w2 : World) (g' cap' : Nat) => keep_add (w2 := w2) (g' := g') (cap' := cap') (y := y) (p := p) h1 h4 h5 hg1)
  obtain ⟨ao, cap, rfl, _⟩ := h4.shape
  clear h7 h9 h10 h6 h4 h5 hmap hB
  go_enter Try.func97, Try.ntmps97
  go_wp2
  go_region
  go_wp2_with (at_builtin; refine wpList_append_lies _ rfl _ _ 130 rfl lo 156 i0 _ 2 16 Try.underlying130 hi hz0 hz1 hz2 rfl (by decide) _ s.length _ rfl (World.ownsRow.alloc e4.1 _) ⟨w1.heap.size, 0, none⟩ 1 1 [.int .i64 y.v, .pointer (some ⟨p, 0, none⟩)] rfl rfl (two_cells w1 _ _ _ _ rfl) (by simp [Value.oneCell']) (by omega) (by unfold maxLen; omega) (by omega) (by simp; omega) (w1.heap.size + 1) (by simp) ?_; intro g' cap' w2 hown' hgrow hat hgl'; have e2 : Strt w2 P (.slice ao s.length cap) M := (hgrow.block P (by simp; omega) (e1.not_row e4.1)).trans ((Below.heap_alloc w1 _ P e1.lt).trans e1); obtain ⟨r0, r1, r2⟩ := e2.cells)
  go_end0
  obtain ⟨a1, a2, a3⟩ := unhide HADD w2 g' cap' hown' hgrow hat
  exact ⟨⟨_, rfl⟩, ⟨a1, ((Below.refl lo w).drew).trans a2, a3⟩, unhide HKP w2 g' cap' hgrow⟩
/-- What bind leaves: bindings with one more; or it could not be. -/
def BindOutP (lo : Nat) (w : World) (P : Nat) (S : Nat → Prop) (s : List B) (y : B) (e : Ending) (w' : World) : Prop :=
  (¬ Reach s y.t y.v ∧ e = .returned (.bool true) ∧ Bnd lo w' P S (s ++ [y]) ∧ Below lo w w' ∧ (∀ b, S b → w'.heap[b]? = w.heap[b]?) ∧ Keep3 w w') ∨ (Reach s y.t y.v ∧ e = .returned (.bool false) ∧ Below w.heap.size w w')

set_option maxRecDepth 100000 in
set_option maxHeartbeats 2000000 in
theorem implBind_any (lo P p : Nat) (S : Nat → Prop) (s : List B) (y : B) (w : World) (hl : s.length ≤ 1048576) (hB : Bnd lo w P S s) (hlo : lo ≤ w.heap.size) (hy : y.v ∉ s.map (·.v)) (hw : (Lit.int .i64 y.v).wf = true) (hT : TreeAt S w p y.t) (hok : ∀ c ∈ y.t, okC c = true) (h40 : y.t.length ≤ 40) (hokT : ∀ u, (∀ c ∈ getB s u, okC c = true) ∧ (getB s u).length ≤ 40) :
    Calls Try.prog 101 #[.pointer (some ⟨P, 0, none⟩), .int .i64 y.v, .pointer (some ⟨p, 0, none⟩)] w (BindOutP lo w P S s y) := by
  have HL := hide (leads_any lo P p S s y.t y.v w hl hB hT hok h40 hokT)
  have hSl := hB.trees
  clear hok hokT
  go_enter Try.func101, Try.ntmps101
  go_wp2_with fail
  refine (unhide HL).mono ?_
  clear HL
  rintro e w1 ⟨r, rfl, hr, hb1⟩
  cases r with
  | true =>
    have HR := hide (hr.1 rfl)
    clear hr
    go_wp2
    go_ret
    exact .inr ⟨unhide HR, rfl, hb1⟩
  | false =>
    have HR : Hid (¬ Reach s y.t y.v) := fun h => by have := hr.2 h; cases this
    have hs1 := hb1.size
    have HA := hide (add_any2 lo P p S s y w1 (by omega) (hB.below hb1) (by omega) hy hw (hT.kept (fun _ h => h) (fun b hb => hb1.block b (hSl b hb))))
    clear hr
    go_wp2_with fail
    refine (unhide HA).mono ?_
    clear HA
    rintro e w2 ⟨⟨rv, rfl⟩, ⟨hN2, hb2, hk2⟩, hk3⟩
    go_wp2
    go_ret
    exact .inl ⟨unhide HR, rfl, hN2, (hb1.mono hlo).trans hb2, fun b hb => (hk2 b hb).trans (hb1.block b (hSl b hb)), (Keep3.of_below hb1).trans hk3⟩
end Go.Proofs.Ytonpahhcfgdeoaa

/- What stays where bindings are added to; bindings while a box is written to. -/
namespace Go.Proofs.Ytonpahhcfgdeoaa
open Go.RowKit Go.Shelf Go.Maps
set_option linter.unusedVariables false
set_option linter.unusedSimpArgs false

theorem keep3_boxed {W W' : World} {B ty : Nat} {v : Value} (h : Boxed W B ty v) (hk : Keep3 W W') (h1 : ty ≠ 132) (h2 : ty ≠ 156) : Boxed W' B ty v :=
  hk.2 B _ h (fun _ _ e => by cases e) (fun _ _ e => by cases e; exact h1 rfl) (fun _ _ e => by cases e; exact h2 rfl)
theorem keep3_row {W W' : World} {base e size n : Nat} {v : Value} {xs : List Value} (h : W.ownsRow base e size v n xs) (hk : Keep3 W W') (h1 : e ≠ 132) (h2 : e ≠ 156) : W'.ownsRow base e size v n xs := by
  refine own_block h (fun k ek => ?_)
  rcases h.2 with ⟨rfl, _⟩ | ⟨g, cap, cur, rfl, _, hgb, _⟩
  · simp [Value.ownBlock] at ek
  · obtain rfl : g = k := by simpa [Value.ownBlock] using ek
    exact (hk.2 g _ hgb (fun _ _ e => by cases e) (fun _ _ e => by cases e; exact h1 rfl) (fun _ _ e => by cases e; exact h2 rfl)).trans hgb.symm
theorem Marked.keep3 {base hi : Nat} {W W' : World} {ds : List Deferred} (h : Marked base hi W ds) (hk : Keep3 W W') : Marked base hi W' ds := by
  obtain ⟨Ds, e, hn, ha⟩ := h
  exact ⟨Ds, e, hn, fun D hm => ⟨(ha D hm).1, (ha D hm).2.1, hk.2 D _ (ha D hm).2.2 (fun _ _ e => by cases e) (fun _ _ e => by cases e) (fun _ _ e => by cases e)⟩⟩

/-- A box that is none of the bindings' is written to. -/
theorem Bnd.setc {lo P Z ty : Nat} {W : World} {S : Nat → Prop} {s : List B} {v0 v : Value} (h : Bnd lo W P S s) (hb : Boxed W Z ty v0) (h1 : ty ≠ 132) (h2 : ty ≠ 156) (hS : ∀ b, S b → b ≠ Z) : Bnd lo (W.setCell ⟨Z, 0, none⟩ v) P S s := by
  obtain ⟨ov, M, n, D1, rs, q1, q2, q3, q4, q5, q6, q7, q9, q10⟩ := h
  have other : ∀ b, b ≠ Z → (W.setCell ⟨Z, 0, none⟩ v).heap[b]? = W.heap[b]? := fun b hb => Below.heap_setCell _ _ _ b hb
  have hPB : P ≠ Z := by
    rintro rfl
    have := (show W.heap[P]? = _ from q1).symm.trans hb
    simp at this
  have hMB : M ≠ Z := by
    rintro rfl
    obtain ⟨es, clock, hm, _⟩ := q5
    have := hm.symm.trans hb
    cases this
  refine ⟨ov, M, n, D1, rs, (other P hPB).trans q1, q2, q3, ⟨own_block q4.1 (fun k e => other k (fun e' => ?_)), q4.2⟩, ?_, q6, q7, fun i hi hi' => (q9 i hi hi').kept (fun _ h => h) (fun b hb' => other b (hS b hb')), fun b hb' => by
    have := q10 b hb'
    exact ⟨this.1, Nat.lt_of_lt_of_le this.2.1 (KeepsWalks.setCell W ⟨Z, 0, none⟩ v).size, this.2.2⟩⟩
  · subst e'
    rcases q4.1.2 with ⟨rfl, _⟩ | ⟨g, cap, cur, rfl, _, hgb, _⟩
    · simp [Value.ownBlock] at e
    · obtain rfl : g = k := by simpa [Value.ownBlock] using e
      have := hgb.symm.trans hb
      simp at this
      exact h2 this.2.symm
  · obtain ⟨es, clock, hm, r⟩ := q5
    exact ⟨es, clock, (other M hMB).trans hm, r⟩

/-- What makeSame keeps while it goes on. -/
structure MsM (lo : Nat) (S : Nat → Prop) (w : World) (P : Nat) (s : List B) (ds : List Deferred) (W : World) : Prop where
  bnd : Bnd lo W P S s
  sk : ∀ b, S b → W.heap[b]? = w.heap[b]?
  below : Below lo w W
  mkd : Marked w.heap.size W.heap.size W ds
theorem MsM.drew {lo : Nat} {S : Nat → Prop} {w : World} {P : Nat} {s : List B} {ds : List Deferred} {W : World} (h : MsM lo S w P s ds W) : MsM lo S w P s ds W.drew :=
  ⟨h.bnd.drew, h.sk, h.below.drew, h.mkd.keeps (KeepsOthers.drew W)⟩
theorem MsM.alloc {lo : Nat} {S : Nat → Prop} {w : World} {P : Nat} {s : List B} {ds : List Deferred} {W : World} (h : MsM lo S w P s ds W) (hlo : lo ≤ W.heap.size) (hSl : ∀ b, S b → b < W.heap.size) (o : Obj) : MsM lo S w P s ds (W.alloc o) :=
  ⟨h.bnd.below ((Below.refl _ W).alloc (Nat.le_refl _) o), fun b hb => (Below.heap_alloc _ _ _ (hSl b hb)).trans (h.sk b hb), h.below.alloc hlo o, (h.mkd.keeps (KeepsOthers.alloc _ _)).mono (by simp)⟩
theorem MsM.setc {lo : Nat} {S : Nat → Prop} {w : World} {P Z ty : Nat} {s : List B} {ds : List Deferred} {W : World} {v0 v : Value} (h : MsM lo S w P s ds W) (hb : Boxed W Z ty v0) (h1 : ty ≠ 132) (h2 : ty ≠ 156) (hlo : lo ≤ Z) (hS : ∀ b, S b → b ≠ Z) : MsM lo S w P s ds (W.setCell ⟨Z, 0, none⟩ v) :=
  ⟨h.bnd.setc hb h1 h2 hS, fun b hb' => (Below.heap_setCell _ _ _ b (hS b hb')).trans (h.sk b hb'), h.below.setCell (p := ⟨Z, 0, none⟩) hlo v, (h.mkd.keeps (KeepsOthers.setCell _ _ _)).mono (KeepsOthers.setCell _ _ _).size⟩

/-- All that was there stays but one box and rows of pairs that the call has made. -/
def Kp4 (h0 Z : Nat) (W4 W : World) : Prop := W.os = W4.os ∧ W.tape = W4.tape ∧ W.output = W4.output ∧ W4.heap.size ≤ W.heap.size ∧ ∀ k, k < W4.heap.size → k ≠ Z → (k < h0 ∨ ∀ cur fr, W4.heap[k]? ≠ some (.cells cur 135 fr)) → W.heap[k]? = W4.heap[k]?
theorem kp4_ownFrom {β : Type} {h0 Z Z' : Nat} {W4 : World} (h : W4.heap.size ≤ Z') : OwnFrom Z' (fun (_ : β) W => Kp4 h0 Z W4 W) := by
  intro s W W' row hk hg hr
  obtain ⟨a1, a2, a3, a4, a5⟩ := hk
  refine ⟨hg.os.trans a1, hg.tape.trans a2, hg.output.trans a3, Nat.le_trans a4 hg.size, fun k h1 h2 h3 => (hg.block k (Nat.lt_of_lt_of_le h1 a4) (fun e => ?_)).trans (a5 k h1 h2 h3)⟩
  have := (hr k e.symm).1
  omega
theorem Kp4.step {h0 Z : Nat} {W4 W w1 : World} {base n : Nat} {v v' : Value} {xs : List Value} {o : Obj} (h : Kp4 h0 Z W4 W) (hr : W.ownsRow base 135 2 v n xs) (hb : h0 ≤ base) (hg : (W.alloc o).grownBy w1 v.ownBlock) : Kp4 h0 Z W4 (w1.setCell ⟨Z, 0, none⟩ v') := by
  obtain ⟨a1, a2, a3, a4, a5⟩ := h
  have hs := hg.size
  simp at hs
  refine ⟨hg.os.trans a1, hg.tape.trans a2, hg.output.trans a3, Nat.le_trans a4 (Nat.le_trans (by omega) (KeepsWalks.setCell w1 ⟨Z, 0, none⟩ v').size), fun k h1 h2 h3 => ?_⟩
  have h5 := a5 k h1 h2 h3
  refine (Below.heap_setCell _ _ _ k h2).trans ((hg.block k (by simp; omega) (fun e => ?_)).trans ((Below.heap_alloc W _ k (by omega)).trans h5))
  rcases hr.2 with ⟨rfl, _⟩ | ⟨g, cap, cur, rfl, hgb, hgh, _⟩
  · simp [Value.ownBlock] at e
  · obtain rfl : k = g := by simpa [Value.ownBlock] using e
    rcases h3 with h3 | h3
    · omega
    · exact h3 _ _ (h5.symm.trans hgh)
theorem MsM.kp4 {lo : Nat} {S : Nat → Prop} {w : World} {P : Nat} {s : List B} {ds : List Deferred} {W4 W : World} {v0 : Value} (h : MsM lo S w P s ds W4) (hk : Kp4 w.heap.size (w.heap.size + 1) W4 W) (hb : Boxed W4 (w.heap.size + 1) 136 v0) (hSl : ∀ b, S b → b < w.heap.size) (hB : Below lo w W) : Bnd lo W P S s ∧ (∀ b, S b → W.heap[b]? = w.heap[b]?) ∧ Marked w.heap.size W4.heap.size W ds := by
  obtain ⟨a1, a2, a3, a4, a5⟩ := hk
  have hz := hb.lt
  have hS5 : ∀ b, S b → W.heap[b]? = W4.heap[b]? := fun b hb' => a5 b (by have := hSl b hb'; omega) (by have := hSl b hb'; omega) (.inl (hSl b hb'))
  obtain ⟨ov, M, n, D1, rs, q1, q2, q3, q4, q5, q6, q7, q9, q10⟩ := h.bnd
  have other : ∀ (k : Nat) (o : Obj), W4.heap[k]? = some o → (∀ cur fr, o ≠ .cells cur 135 fr) → (∀ cur fr, o ≠ .cells cur 136 fr) → W.heap[k]? = W4.heap[k]? := fun k o h0 h1 h2 => by
    refine a5 k (Array.getElem?_eq_some_iff.1 h0).1 (fun e => ?_) (.inr (fun cur fr e => h1 cur fr (Option.some.inj (h0.symm.trans e))))
    subst e
    exact h2 _ _ (Option.some.inj (h0.symm.trans hb))
  refine ⟨⟨ov, M, n, D1, rs, (other P _ q1 (fun _ _ e => by cases e) (fun _ _ e => by cases e)).trans q1, q2, q3, ⟨own_block q4.1 (fun k e => ?_), q4.2⟩, ?_, q6, q7, fun i hi hi' => (q9 i hi hi').kept (fun _ h => h) hS5, fun b hb' => ?_⟩, fun b hb' => (hS5 b hb').trans (h.sk b hb'), ?_⟩
  · rcases q4.1.2 with ⟨rfl, _⟩ | ⟨g, cap, cur, rfl, _, hgb, _⟩
    · simp [Value.ownBlock] at e
    · obtain rfl : g = k := by simpa [Value.ownBlock] using e
      exact other g _ hgb (fun _ _ e => by cases e) (fun _ _ e => by cases e)
  · obtain ⟨es, clock, hm, rr⟩ := q5
    exact ⟨es, clock, (other M _ hm (fun _ _ e => by cases e) (fun _ _ e => by cases e)).trans hm, rr⟩
  · have := q10 b hb'
    exact ⟨this.1, by omega, this.2.2⟩
  · obtain ⟨Ds, e, hn, ha⟩ := h.mkd
    exact ⟨Ds, e, hn, fun D hm => ⟨(ha D hm).1, (ha D hm).2.1, (other D _ (ha D hm).2.2 (fun _ _ e => by cases e) (fun _ _ e => by cases e)).trans (ha D hm).2.2⟩⟩
end Go.Proofs.Ytonpahhcfgdeoaa
