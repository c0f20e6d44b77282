import Derived.Test.YtonpahhcfgdeoaaRows
import Derived.Test.YtonpahhcfgdeoaaQMemMem2Mem3W9W11
import Derived.Deep.Strs
import Derived.ProofKit
import Derived.OpenShut
import Derived.Maps.Own
import Derived.Maps.OwnOps
import Derived.Maps.OwnSet
import Derived.Test.YtonpahhcfgdeoaaQPB4W1
/- Arguments of the laws, opened: places that came in (a slice of structs of three fields). -/
namespace Go.Proofs.Ytonpahhcfgdeoaa
open Go.RowKit Go.Deep Go.ChangeShapes Go.WideShapes
set_option linter.unusedVariables false
set_option linter.unusedSimpArgs false

theorem own_knob : ownKnob Try.prog.godebug = none := by kernel_rfl
theorem laid_out : laidOutB Try.prog = true := by kernel_rfl
theorem Try.cellsLaw : Try.prog.cellsOf 59 = 3 := by kernel_rfl
theorem Try.cellsInt : Try.prog.cellsOf 3 = 1 := by kernel_rfl
theorem Try.cellsStr : Try.prog.cellsOf 9 = 1 := by kernel_rfl

theorem add_zero_spot {b off : Nat} (i : Nat) : (⟨b, off, none⟩ : Addr).add i = ⟨b, off + i, none⟩ := by
  unfold Addr.add
  by_cases h : i = 0
  · simp [h]
  · simp [h]

theorem choose_C {n : Nat} {p : Nat → C → Prop} (h : ∀ i, i < n → ∃ x, p i x) : ∃ f : Nat → C, ∀ i, i < n → p i (f i) := by
  classical
  refine ⟨fun i => if hi : i < n then Classical.choose (h i hi) else ⟨0, 0, ByteArray.empty⟩, fun i hi => ?_⟩
  simp only [dif_pos hi]
  exact Classical.choose_spec (h i hi)

/-- All numbers of places fit an int. -/
def WfC (t : List C) : Prop := ∀ c ∈ t, (Lit.int .i64 c.k).wf = true ∧ (Lit.int .i64 c.n).wf = true

set_option maxRecDepth 100000 in
/-- A slice of places that came in leads to places. -/
theorem open_cells {H : Type} {enc : TypeId × Value → H} {W : World} {a : Option Addr} {len cap : Nat} {d : DataW H} {p : List MemPlace}
    (h : DataW.Trod enc Try.prog W 0 (fun _ => true) true 22 (.slice a len cap) d p) :
    ∃ t : List C, t.length = len ∧ len ≤ maxLen ∧ Row W a t ∧ Fit t ∧ WfC t := by
  obtain ⟨fuel, hf⟩ := h
  rcases open_slice Try.underlying22 hf with ⟨hcs, _⟩ | ⟨x, l, c, m, n, D, Pl, hcs, _, hl, hm, hmm, _, hx⟩
  · simp [Value.cells] at hcs
    obtain ⟨rfl, rfl, rfl⟩ := hcs
    exact ⟨[], rfl, by simp [maxLen], .inl rfl, fun c hc => by simp at hc, fun c hc => by simp at hc⟩
  · simp [Value.cells] at hcs
    obtain ⟨rfl, rfl, rfl⟩ := hcs
    simp only [if_true] at hmm
    have each : ∀ i, i < len → ∃ q : C, W.cell? (x.add (i * 3)) = some (.int .i64 q.k) ∧ W.cell? (x.add (i * 3 + 1)) = some (.int .i64 q.n) ∧ W.cell? (x.add (i * 3 + 2)) = some (.string q.s) ∧
        q.s.size ≤ maxLen ∧ (Lit.int .i64 q.k).wf = true ∧ (Lit.int .i64 q.n).wf = true := fun i hi => by
      obtain ⟨cs', h1, h2⟩ := hx i (by omega)
      rw [Try.cellsLaw] at h1
      obtain ⟨_, hlen, hcell⟩ := World.cells?_some h1
      obtain ⟨y0, y1, y2, n', _, _, t0, t1, t2⟩ := trod_struct3 Try.underlying59 h2
      match cs', hlen with
      | [v0, v1, v2], _ =>
        have k0 := hcell 0 (by omega)
        have k1 := hcell 1 (by omega)
        have k2 := hcell 2 (by omega)
        simp only [Try.cellsInt, Try.cellsStr] at t0 t1 t2
        obtain ⟨z0, e0, _, w0⟩ := DataW.trod_int Try.underlying3 t0
        obtain ⟨z1, e1, _, w1⟩ := DataW.trod_int Try.underlying3 t1
        obtain ⟨s2, e2, _, hs⟩ := DataW.trod_string Try.underlying9 t2
        simp at e0 e1 e2 k0 k1 k2
        subst e0 e1 e2
        rw [add_add] at k0 k1 k2
        exact ⟨⟨z0, z1, s2⟩, k0, k1, k2, hs, w0, w1⟩
    obtain ⟨b, off, spot⟩ := x
    by_cases h0 : len = 0
    · subst h0
      exact ⟨[], rfl, by omega, .inl rfl, fun c hc => by simp at hc, fun c hc => by simp at hc⟩
    · have hsp : spot = none := by
        obtain ⟨q, hq, _⟩ := each 0 (by omega)
        simpa [Addr.add] using World.cell?_spot hq
      subst hsp
      simp only [add_zero_spot] at each
      obtain ⟨f, hfn⟩ := choose_C each
      have hget : ∀ i, (hi : i < ((List.range len).map f).length) → ((List.range len).map f)[i] = f i := fun i hi => by simp
      refine ⟨(List.range len).map f, by simp, by omega, .inr ⟨b, off, rfl, fun i hi => ?_⟩, fun c hc => ?_, fun c hc => ?_⟩
      · rw [hget i hi]
        have := hfn i (by simpa using hi)
        exact ⟨this.1, this.2.1, this.2.2.1⟩
      · obtain ⟨i, hi, rfl⟩ := List.mem_map.1 hc
        exact (hfn i (by simpa using hi)).2.2.2.1
      · obtain ⟨i, hi, rfl⟩ := List.mem_map.1 hc
        exact (hfn i (by simpa using hi)).2.2.2.2
end Go.Proofs.Ytonpahhcfgdeoaa

/- The walk of the program's numberVars (a list and a map) and of TrmFree. -/
namespace Go.Proofs.Ytonpahhcfgdeoaa
open Go.RowKit Go.Maps
set_option linter.unusedVariables false
set_option linter.unusedSimpArgs false

/-- The map says of each of these numbers at which place it stands, and of no other. -/
def Tab (z : List Int) (D : DataW Unit) : Prop :=
  Maps.IsMap D ∧ (∀ x : Int, Maps.has D (.int .i64 x) = decide (x ∈ z)) ∧ ∀ i, (h : i < z.length) → ∀ d, D.atKey (.int .i64 z[i]) d = .lit (.int .i64 (i : Int))

theorem tab_nil : Tab [] (.map [] : DataW Unit) := ⟨Maps.isMap_empty, fun x => by simp [Maps.has], fun i h => absurd h (Nat.not_lt_zero _)⟩

theorem tab_put {z : List Int} {D : DataW Unit} {x : Int} (h : Tab z D) (hx : x ∉ z) : Tab (z ++ [x]) (D.put (.int .i64 x) (.lit (.int .i64 (z.length : Int)))) := by
  refine ⟨h.1.put _ _, fun y => ?_, fun i hi d => ?_⟩
  · by_cases e : y = x
    · subst e
      rw [Maps.has_put_same h.1 (show WideAt.IsKeyLit (Lit.int .i64 y) from trivial)]; simp
    · rw [Maps.has_put_other (by intro h'; apply e; simpa using h'), h.2.1 y]
      simp [e]
  · by_cases hl : i < z.length
    · have hg : (z ++ [x])[i] = z[i] := List.getElem_append_left hl
      have hne : z[i] ≠ x := fun e => hx (by rw [← e]; exact List.getElem_mem hl)
      rw [hg, Maps.atKey_put_other (by intro h'; apply hne; simpa using h'), h.2.2 i hl]
    · have hi' : i = z.length := by simp at hi; omega
      subst hi'
      have hg : (z ++ [x])[z.length]'hi = x := by simp
      rw [hg, Maps.atKey_put_same h.1 (show WideAt.IsKeyLit (Lit.int .i64 x) from trivial)]

theorem zeroInt (w : World) : (zeroValue 3).run Try.prog w = .ok (.int .i64 0) w := by kernel_rfl

theorem addV_nodup {acc : List Int} {c : C} (h : acc.Nodup) : (addV acc c).Nodup := by
  unfold addV
  split
  · split
    · exact h
    · rename_i hn
      rw [List.nodup_append]
      refine ⟨h, by simp, fun a ha b hb => ?_⟩
      simp at hb
      subst hb
      intro e
      subst e
      exact hn ha
  · exact h
theorem fold_nodup : ∀ (t : List C) (acc : List Int), acc.Nodup → (t.foldl addV acc).Nodup
  | [], acc, h => h
  | c :: t, acc, h => fold_nodup t _ (addV_nodup h)
theorem freeOf_nodup (t : List C) : (freeOf t).Nodup := fold_nodup t [] List.nodup_nil

set_option maxHeartbeats 2000000 in
theorem numberVars_some (b off cap : Nat) (t : List C) (w : World) (hm : t.length ≤ 1048576) (hA : At w b off t) (hw : WfC t) :
    Calls Try.prog 95 #[.slice (some ⟨b, off, none⟩) t.length cap] w fun e w' => ∃ v, e = .returned (.tuple #[v, .map (some w.heap.size)]) ∧ OwnI w' (w.heap.size + 1) v (freeOf t) ∧
      (∃ D n, n ≤ t.length ∧ w'.ownsMap Try.prog 3 (plainElem Try.prog 3) w.heap.size n D ∧ Tab (freeOf t) D) ∧ Below w.heap.size w w' := by
  obtain ⟨i0, hi, hz0, hz1, hz2⟩ := info_parts Try.infoInt
  have hmm := @run_makeMap Try.prog
  go_enter Try.func95, Try.ntmps95
  go_wp2
  go_loopw [4, 13] (fun o i wr => ∃ (k n : Nat) (D : DataW Unit), k ≤ t.length ∧ n ≤ k ∧ i = .int .i64 k ∧ OwnI wr (w.heap.size + 1) o (freeOf (t.take k)) ∧ wr.ownsMap Try.prog 3 (plainElem Try.prog 3) w.heap.size n D ∧ Tab (freeOf (t.take k)) D ∧ Below w.heap.size w wr ∧ w.heap.size + 1 ≤ wr.heap.size) (fun _ i _ => t.length - (intOf i).toNat)
  case atStart =>
    exact ⟨0, 0, _, Nat.zero_le _, Nat.le_refl _, rfl, World.ownsRow_nil _ _ _ _, World.ownsMap_made _ _ _ _, tab_nil, cell_below _ _, by simp⟩
  case round =>
    obtain ⟨k, n, D, hk, hn, rfl, hown, hmap, hT, hB, hsz⟩ := hrel
    by_cases hlt : k < t.length
    · obtain ⟨c0, c1, c2⟩ := (hA.below hB) k hlt
      have HS := hide (freeOf_step hlt)
      have hwf := (hw _ (List.getElem_mem hlt)).2
      have hfl : (freeOf (t.take k)).length ≤ 1048576 := by have := freeOf_len (t.take k); simp at this; omega
      have hnd := freeOf_nodup (t.take k)
      obtain ⟨c, hc⟩ : ∃ c, c = t[k] := ⟨_, rfl⟩
      rw [← hc] at c0 c1 c2 HS hwf
      clear hc
      obtain ⟨z, hz⟩ : ∃ z, z = freeOf (t.take k) := ⟨_, rfl⟩
      rw [← hz] at hown HS hfl hT hnd
      clear hz
      have HT := hide hT
      have HND := hide hnd
      clear hnd hT
      obtain ⟨ao, cp, rfl, hR⟩ := hown.shape
      by_cases hk1 : c.k = 1
      · have hb : (c.k != 1) = false := by simpa using hk1
        have HK := hide hk1
        clear hk1
        have hhas := (unhide HT).2.1 c.n
        by_cases hin : c.n ∈ z
        · have hd : Maps.has D (.int .i64 c.n) = true := by rw [hhas]; simpa using hin
          clear hhas
          go_wp2_with (at_lookup; refine wpList_lookup_own_ok_int _ rfl _ _ 127 rfl 3 3 .i64 (int_keyed Try.underlying3) Try.underlying127 Try.underlying3 (zeroInt _) w.heap.size n D rfl (World.ownsMap.alloc hmap _) _ _ rfl (keyOf_int_mk Try.underlying3 hwf) ?_; intro cc hat hwc)
          go_roundw
          case rel => exact ⟨k + 1, n, D, by omega, by omega, by go_num, by rw [unhide HS, addV_old hin]; exact World.ownsRow.alloc hown _, World.ownsMap.alloc hmap _, by rw [unhide HS, addV_old hin]; exact unhide HT, hB.alloc hB.size _, by simp; omega⟩
          case measure => simp [intOf]; omega
        · have hd : Maps.has D (.int .i64 c.n) = false := by rw [hhas]; simpa using hin
          clear hhas
          have hwl : (Lit.int .i64 (z.length : Int)).wf = true := WalkArith.wf_i64 (by omega)
          have hnl : n < maxLen := by unfold maxLen; omega
          go_wp2_with (first | (at_lookup; refine wpList_lookup_own_ok_int _ rfl _ _ 127 rfl 3 3 .i64 (int_keyed Try.underlying3) Try.underlying127 Try.underlying3 (zeroInt _) w.heap.size n D rfl (World.ownsMap.alloc hmap _) _ _ rfl (keyOf_int_mk Try.underlying3 hwf) ?_; intro cc hat hwc) | (at_mapUpdate; refine wpList_mapUpdate_own _ rfl _ _ _ 127 rfl 3 3 (int_keyed Try.underlying3) Try.underlying127 _ w.heap.size n D rfl (World.ownsMap.alloc hmap _) hnl _ _ _ rfl rfl (keyOf_int_mk Try.underlying3 hwf) _ [] (plainElem_int Try.underlying3 hwl) ?_; intro w1 hmap1 hgrow1; have q1 := hgrow1.cell (a := ⟨wr.heap.size, 1, none⟩) (v := .int .i64 c.n) (by simp [go_sem]) (by simp; omega); have ho1 := own_apart (World.ownsRow.alloc hown (.cells #[.int .i64 c.k, .int .i64 c.n, .string c.s] 67)) hgrow1 (fun j e => .inl (by cases e; omega))) | (at_builtin; refine wpList_append_own _ rfl _ _ 87 rfl (w.heap.size + 1) 3 i0 (.int .i64 0) 1 8 Try.underlying87 hi hz0 hz1 hz2 rfl (by decide) _ _ _ rfl (World.ownsRow.alloc ho1 _) ⟨w1.heap.size, 0, none⟩ 1 1 [.int .i64 c.n] rfl rfl (cell_one_new _ _ _) ?c2 ?c3 ?c4 ?c5 ?_))
          case c2 => intro u hu; simp at hu; subst hu; rfl
          case c3 => unfold maxLen; omega
          case c4 => omega
          case c5 => have := hgrow1.size; simp at this ⊢; omega
          · intro v' w2 hown' hgrow2 _
            have hB1 : Below w.heap.size w w1 := (hB.alloc hB.size _).grown hgrow1 (by have := hB.size; simp; omega) (fun j e => by cases e; exact Nat.le_refl _)
            have hB2 : Below w.heap.size w w2 := (hB1.alloc hB1.size _).grown hgrow2 (by have := hB1.size; simp; omega) (fun j e => by have := (ho1.lt j e).1; omega)
            have hmap2 := (World.ownsMap.alloc hmap1 (.cells #[.int .i64 c.n] 3)).kept hgrow2 (fun e => by have := (ho1.lt _ e.symm).1; omega)
            have hO2 : OwnI w2 (w.heap.size + 1) v' (z ++ [c.n]) := by
              unfold OwnI
              rw [show (z ++ [c.n]).length = z.length + 1 by simp, show nums (z ++ [c.n]) = nums z ++ [.int .i64 c.n] by simp [nums]]
              exact hown'
            have hsz2 : w.heap.size + 1 ≤ w2.heap.size := by have := hgrow2.size; have := hgrow1.size; simp at *; omega
            clear hown' hgrow2 hgrow1 hown c0 c1 c2 hR hmap1 ho1 q1 hmap
            go_wp2
            go_roundw
            case rel => exact ⟨k + 1, n + 1, _, by omega, by omega, by go_num, by rw [unhide HS, addV_new (unhide HK) hin]; exact hO2, hmap2, by rw [unhide HS, addV_new (unhide HK) hin]; exact tab_put (unhide HT) hin, hB2, hsz2⟩
            case measure => simp [intOf]; omega
      · have hb : (c.k != 1) = true := by simpa using hk1
        go_wp2
        go_roundw
        case rel => exact ⟨k + 1, n, D, by omega, by omega, by go_num, by rw [unhide HS, addV_other hk1]; exact World.ownsRow.alloc hown _, World.ownsMap.alloc hmap _, by rw [unhide HS, addV_other hk1]; exact unhide HT, hB.alloc hB.size _, by simp; omega⟩
        case measure => simp [intOf]; omega
    · rw [List.take_of_length_le (by omega)] at hown hT
      go_wp2
      go_ret2
      exact ⟨_, rfl, hown, ⟨D, n, by omega, hmap, hT⟩, hB⟩
end Go.Proofs.Ytonpahhcfgdeoaa

/- The plain mathematics of what can be come to from a term's variables, as the specification looks for it. -/
namespace Go.Proofs.Ytonpahhcfgdeoaa
set_option linter.unusedVariables false
set_option linter.unusedSimpArgs false

theorem mem_addVV {acc : List Int} {c : C} {v : Int} : v ∈ addV acc c ↔ v ∈ acc ∨ (c.k = 1 ∧ c.n = v) := by
  unfold addV
  by_cases h : c.k = 1
  · rw [if_pos h]
    by_cases hm : c.n ∈ acc
    · rw [if_pos hm]
      exact ⟨.inl, fun h' => h'.elim id (fun h' => h'.2 ▸ hm)⟩
    · rw [if_neg hm]
      simp [h]
      constructor
      · rintro (h' | rfl)
        · exact .inl h'
        · exact .inr rfl
      · rintro (h' | rfl)
        · exact .inl h'
        · exact .inr rfl
  · rw [if_neg h]
    simp [h]
theorem mem_foldV : ∀ (t : List C) (acc : List Int) (v : Int), v ∈ t.foldl addV acc ↔ v ∈ acc ∨ varIn t v
  | [], acc, v => by simp [varIn_nil]
  | c :: t, acc, v => by
      rw [List.foldl_cons, mem_foldV t, mem_addVV, varIn_cons]
      exact or_assoc
theorem mem_freeV {t : List C} {v : Int} : v ∈ freeOf t ↔ varIn t v := by
  unfold freeOf
  rw [mem_foldV]
  simp

theorem nodup_len : ∀ {l V : List Int}, l.Nodup → (∀ x ∈ l, x ∈ V) → l.length ≤ V.length
  | [], V, _, _ => Nat.zero_le _
  | x :: l, V, hn, hs => by
      have hx := hs x (by simp)
      have hn' := List.nodup_cons.1 hn
      have ih := nodup_len (l := l) (V := V.erase x) hn'.2 (fun y hy => (List.mem_erase_of_ne (fun (e : y = x) => hn'.1 (e ▸ hy))).2 (hs y (by simp [hy])))
      have := List.length_erase_of_mem hx
      have := List.length_pos_of_mem hx
      simp only [List.length_cons]
      omega

/-- All numbers at places of a term and of bindings. -/
def allV (s : List B) (t : List C) : List Int := varsOf t ++ (s.map fun x => varsOf x.t).flatten
theorem allV_get {s : List B} {t : List C} {u v : Int} (h : varIn (getB s u) v) : v ∈ allV s t := by
  obtain ⟨x, hx, _, e⟩ := getB_mem (ne_of_varIn h)
  rw [← e] at h
  exact List.mem_append.2 (.inr (List.mem_flatten.2 ⟨_, List.mem_map.2 ⟨x, hx, rfl⟩, mem_varsOf h⟩))
theorem allV_len (s : List B) (t : List C) : (allV s t).length = t.length + (s.map fun x => x.t.length).sum := by
  unfold allV
  rw [List.length_append, List.length_flatten, List.map_map]
  simp [varsOf, Function.comp_def]

/-- How far the search has come: the first k have been looked at, and of the next one those in 'm'. -/
structure Lead (s : List B) (t : List C) (out : List Int) (k : Nat) : Prop where
  sound : ∀ v ∈ out, Reach s t v
  start : ∀ v, varIn t v → v ∈ out
  step : ∀ j, (h : j < out.length) → j < k → ∀ v, varIn (getB s out[j]) v → v ∈ out
  nodup : out.Nodup
  kle : k ≤ out.length

theorem Lead.begin (s : List B) (t : List C) : Lead s t (freeOf t) 0 :=
  ⟨fun v hv => .here (mem_freeV.1 hv), fun v hv => mem_freeV.2 hv, fun j _ h => absurd h (Nat.not_lt_zero _), freeOf_nodup t, Nat.zero_le _⟩

theorem reach_all {s : List B} {t : List C} {v : Int} (h : Reach s t v) : v ∈ allV s t := by
  cases h with
  | here h => exact List.mem_append.2 (.inl (mem_varsOf h))
  | step _ h => exact allV_get h

theorem Lead.len {s : List B} {t : List C} {out : List Int} {k : Nat} (h : Lead s t out k) : out.length ≤ (allV s t).length := nodup_len h.nodup (fun v hv => reach_all (h.sound v hv))

/-- One more is found. -/
theorem Lead.add {s : List B} {t : List C} {out : List Int} {k : Nat} (h : Lead s t out k) (hk : k < out.length) {v : Int} (hv : varIn (getB s out[k]) v) (hn : v ∉ out) : Lead s t (out ++ [v]) k := by
  refine ⟨fun u hu => ?_, fun u hu => List.mem_append.2 (.inl (h.start u hu)), fun j hj hjk u hu => ?_, ?_, by simp; omega⟩
  · rcases List.mem_append.1 hu with hu | hu
    · exact h.sound u hu
    · simp at hu; subst hu; exact .step (h.sound _ (List.getElem_mem hk)) hv
  · have hj' : j < out.length := by omega
    rw [List.getElem_append_left hj'] at hu
    exact List.mem_append.2 (.inl (h.step j hj' hjk u hu))
  · rw [List.nodup_append]
    exact ⟨h.nodup, by simp, fun a ha b hb => by simp at hb; subst hb; intro e; subst e; exact hn ha⟩

/-- All of one have been looked at. -/
theorem Lead.next {s : List B} {t : List C} {out : List Int} {k : Nat} (h : Lead s t out k) (hk : k < out.length) (ha : ∀ v, varIn (getB s out[k]) v → v ∈ out) : Lead s t out (k + 1) := by
  refine ⟨h.sound, h.start, fun j hj hjk u hu => ?_, h.nodup, hk⟩
  by_cases e : j = k
  · subst e; exact ha u hu
  · exact h.step j hj (by omega) u hu

theorem Lead.done {s : List B} {t : List C} {out : List Int} (h : Lead s t out out.length) (v : Int) : v ∈ out ↔ Reach s t v := by
  refine ⟨h.sound v, fun hr => ?_⟩
  induction hr with
  | here h1 => exact h.start _ h1
  | step _ h2 ih =>
    obtain ⟨j, hj, rfl⟩ := List.getElem_of_mem ih
    exact h.step j hj hj _ h2

/-- While the things that one leads to are looked at. -/
def MoreAt (s : List B) (t : List C) (k : Nat) (u : Int) (mo : List Int) (j : Nat) (out : List Int) : Prop :=
  Lead s t out k ∧ (∃ h : k < out.length, out[k] = u) ∧ (∀ i, (h : i < mo.length) → i < j → mo[i] ∈ out)

theorem MoreAt.start {s : List B} {t : List C} {k : Nat} {out : List Int} (h : Lead s t out k) (hk : k < out.length) : MoreAt s t k out[k] (freeOf (getB s out[k])) 0 out :=
  ⟨h, ⟨hk, rfl⟩, fun i _ h => absurd h (Nat.not_lt_zero _)⟩
theorem MoreAt.old {s : List B} {t : List C} {k j : Nat} {u : Int} {mo out : List Int} (h : MoreAt s t k u mo j out) (hj : j < mo.length) (hm : mo[j] ∈ out) : MoreAt s t k u mo (j + 1) out := by
  refine ⟨h.1, h.2.1, fun i hi hij => ?_⟩
  by_cases e : i = j
  · subst e; exact hm
  · exact h.2.2 i hi (by omega)
theorem MoreAt.new {s : List B} {t : List C} {k j : Nat} {u : Int} {out : List Int} (h : MoreAt s t k u (freeOf (getB s u)) j out) (hj : j < (freeOf (getB s u)).length) (hm : (freeOf (getB s u))[j] ∉ out) : MoreAt s t k u (freeOf (getB s u)) (j + 1) (out ++ [(freeOf (getB s u))[j]]) := by
  obtain ⟨h1, ⟨hk, e⟩, h3⟩ := h
  have hv : varIn (getB s out[k]) (freeOf (getB s u))[j] := by rw [e]; exact mem_freeV.1 (List.getElem_mem hj)
  refine ⟨h1.add hk hv hm, ⟨by simp; omega, by rw [List.getElem_append_left hk]; exact e⟩, fun i hi hij => ?_⟩
  by_cases e' : i = j
  · subst e'; simp
  · exact List.mem_append.2 (.inl (h3 i hi (by omega)))
theorem MoreAt.done {s : List B} {t : List C} {k : Nat} {u : Int} {out : List Int} (h : MoreAt s t k u (freeOf (getB s u)) (freeOf (getB s u)).length out) : Lead s t out (k + 1) := by
  obtain ⟨h1, ⟨hk, e⟩, h3⟩ := h
  refine h1.next hk (fun v hv => ?_)
  rw [e] at hv
  obtain ⟨i, hi, rfl⟩ := List.getElem_of_mem (mem_freeV.2 hv)
  exact h3 i hi hi
end Go.Proofs.Ytonpahhcfgdeoaa
