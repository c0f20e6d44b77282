import Derived.Test.YtkedckmpjedjoaaQT3T4
import Derived.Test.YtkedckmpjedjoaaQW18GI6GI6call
import Derived.Deep.RegionHeld3
import Derived.Deep.QuietTactic
import Derived.BigQuiet
import Derived.Test.YtkedckmpjedjoaaQQI1QI2QI4
/- Trees as shapes with what they hold; the walk of TrmArg. -/
namespace Go.Proofs.Ytkedckmpjedjoaa
open Go.RowKit Go.Shelf
set_option linter.unusedVariables false
set_option linter.unusedSimpArgs false

theorem Tre.tm {S : Nat → Prop} {W : World} : ∀ {f p : Nat} {z : List (Nat × C)}, Tre S W f p z → Tm f (z.map (·.2))
  | f + 1, p, z, ⟨c, ks, ao, cap, e, hp, hl, hn, hr, hs⟩ => by
      refine ⟨c, ks.map (fun k => k.2.map (·.2)), ?_, by simpa using hl.2, fun k hk => ?_⟩
      · rw [e, List.map_cons, List.map_flatten, List.map_map]; rfl
      · obtain ⟨q, hq, rfl⟩ := List.mem_map.1 hk
        exact (hs q hq).tm

theorem Tre.shp {S : Nat → Prop} {n₀ : Nat} {W : World} (hS : ∀ b, S b → b < n₀) : ∀ {f p : Nat} {z : List (Nat × C)}, Tre S W f p z → Shp n₀ W f p (z.map (·.1))
  | f + 1, p, z, ⟨c, ks, ao, cap, e, hp, hl, hn, hr, hs⟩ => by
      refine ⟨ks.map (fun k => (k.1, k.2.map (·.1))), ao, cap, ?_, hS p hp, by rw [List.length_map]; unfold maxLen; omega, by rw [List.length_map]; exact hn.cell, ?_, ?_⟩
      · rw [e, List.map_cons, List.map_flatten, List.map_map, List.map_map]; rfl
      · rcases hr with rfl | ⟨q, e, hq, h⟩
        · exact .inl rfl
        · refine .inr ⟨q, e, hS q hq, fun i hi => ?_⟩
          rw [List.length_map] at hi
          rw [h i hi, List.getElem_map]
      · intro k hk
        obtain ⟨q, hq, rfl⟩ := List.mem_map.1 hk
        exact (hs q hq).shp hS

theorem Tre.held {S : Nat → Prop} {n₀ : Nat} {W : World} (hS : ∀ b, S b → b < n₀) : ∀ {f p : Nat} {z : List (Nat × C)}, Tre S W f p z → ∀ x ∈ z, Held n₀ W x
  | f + 1, p, z, ⟨c, ks, ao, cap, e, hp, hl, hn, hr, hs⟩, x, hx => by
      rw [e] at hx
      rcases List.mem_cons.1 hx with rfl | hx
      · exact ⟨hS p hp, hn.cells.1, hn.cells.2.1, hn.cells.2.2⟩
      · obtain ⟨l, hl, hx⟩ := List.mem_flatten.1 hx
        obtain ⟨k, hk, rfl⟩ := List.mem_map.1 hl
        exact (hs k hk).held hS x hx

/-- The first m terms of places. -/
def split : Nat → List C → List (List C)
  | 0, _ => []
  | m + 1, t => match ends 1 t with
    | some j => t.take j :: split m (t.drop j)
    | none => []

theorem split_trees {f : Nat} (r : List C) : ∀ (ks : List (List C)), (∀ k ∈ ks, Tm f k) → split ks.length (ks.flatten ++ r) = ks
  | [], _ => rfl
  | k :: ks, h => by
      have e := ends_of_tree f k (h k (by simp)) 0 (ks.flatten ++ r)
      have z : ∀ r, ends (0 : Nat) r = some 0 := fun r => by cases r <;> simp [ends]
      rw [z] at e
      simp at e
      rw [List.flatten_cons, List.append_assoc, List.length_cons]
      simp only [split, e]
      rw [List.take_left, List.drop_left, split_trees r ks (fun q hq => h q (by simp [hq]))]

/-- The k-th argument of places that are a term. -/
def argOf (t : List C) (k : Int) : List C := if trm t = true ∧ 0 ≤ k then ((split (ari (t.headD ⟨0, 0, ByteArray.empty⟩)).toNat t.tail)[k.toNat]?).getD [] else []

theorem argOf_no {t : List C} {k : Int} (h : trm t = false) : argOf t k = [] := by simp [argOf, h]
theorem argOf_neg {t : List C} {k : Int} (h : k < 0) : argOf t k = [] := by
  unfold argOf; rw [if_neg (fun h' => by omega)]
theorem argOf_at {f : Nat} {c : C} {ks : List (List C)} (ht : trm (c :: ks.flatten) = true) (hl : (ks.length : Int) = ari c) (hk : ∀ k ∈ ks, Tm f k) {i : Int} (hi : 0 ≤ i) : argOf (c :: ks.flatten) i = (ks[i.toNat]?).getD [] := by
  unfold argOf
  rw [if_pos ⟨ht, hi⟩]
  have := split_trees [] ks hk
  rw [List.append_nil] at this
  simp only [List.headD_cons, List.tail_cons]
  rw [← hl, Int.toNat_natCast, this]

theorem arg_trm {f : Nat} {c : C} {ks : List (List C)} (ht : trm (c :: ks.flatten) = true) (hk : ∀ k ∈ ks, Tm f k) {k : List C} (h : k ∈ ks) : trm k = true := by
  have h0 := (trm_iff _).1 ht
  have hsub : ∀ q ∈ k, q ∈ c :: ks.flatten := fun q hq => List.mem_cons_of_mem _ (List.mem_flatten.2 ⟨k, h, hq⟩)
  have hlen : k.length ≤ ks.flatten.length := by
    have := (List.sublist_flatten_of_mem h).length_le
    exact this
  refine tree_trm (hk k h) ?_ (fun q hq => h0.2.2.1 q (hsub q hq))
  have := h0.2.1
  simp only [List.length_cons] at this
  omega

theorem argOf_len (t : List C) (k : Int) : (argOf t k).length ≤ 40 := by
  by_cases h : trm t = true
  · by_cases hk : 0 ≤ k
    · obtain ⟨f, c, ks, e, hl, hks⟩ : ∃ f c ks, t = c :: ks.flatten ∧ ((ks : List (List C)).length : Int) = ari c ∧ ∀ k ∈ ks, Tm f k := by
        have := trm_tree h
        obtain ⟨n, hn⟩ : ∃ n, t.length = n + 1 := ⟨t.length - 1, by have := (trm_iff t).1 h; omega⟩
        rw [hn] at this
        obtain ⟨c, ks, e, hl, hk⟩ := this
        exact ⟨n, c, ks, e, hl, hk⟩
      subst e
      rw [argOf_at h hl hks hk]
      rcases hq : ks[k.toNat]? with _ | q
      · simp
      · have := arg_trm h hks (List.mem_of_getElem? hq)
        exact ((trm_iff q).1 this).2.1
    · rw [argOf_neg (by omega)]; simp
  · rw [argOf_no (by simpa using h)]; simp

end Go.Proofs.Ytkedckmpjedjoaa

/- What TrmShift is of places: the plain part. -/
namespace Go.Proofs.Ytkedckmpjedjoaa
open Go.RowKit Go.Shelf
set_option linter.unusedVariables false
set_option linter.unusedSimpArgs false

def shiftC (n : Int) (c : C) : C := if c.k = 1 then ⟨c.k, c.n + n, c.s⟩ else c

/-- What TrmShift is of places. -/
def shiftOf (t : List C) (n : Int) : List C := if trm t = true ∧ 0 ≤ n ∧ n ≤ 99999 then listed (t.map (shiftC n)) else []

theorem shiftOf_no {t : List C} {n : Int} (h : trm t = false) : shiftOf t n = [] := by simp [shiftOf, h]
theorem shiftOf_out {t : List C} {n : Int} (h : n < 0 ∨ 99999 < n) : shiftOf t n = [] := by
  unfold shiftOf; rw [if_neg (fun h' => by omega)]
theorem shiftOf_in {t : List C} {n : Int} (h : trm t = true) (h0 : 0 ≤ n) (h1 : n ≤ 99999) : shiftOf t n = listed (t.map (shiftC n)) := by
  unfold shiftOf; rw [if_pos ⟨h, h0, h1⟩]
theorem listed_len (t : List C) : (listed t).length ≤ t.length := by unfold listed; split <;> simp
theorem shiftOf_len (t : List C) (n : Int) : (shiftOf t n).length ≤ t.length := by
  unfold shiftOf; split
  · have := listed_len (t.map (shiftC n)); simpa using this
  · simp
theorem shiftC_ari (n : Int) (c : C) : ari (shiftC n c) = ari c := by unfold shiftC ari; split <;> simp_all
theorem shiftC_k (n : Int) (c : C) : (shiftC n c).k = c.k := by unfold shiftC; split <;> rfl
theorem shiftC_s (n : Int) (c : C) : (shiftC n c).s = c.s := by unfold shiftC; split <;> rfl
end Go.Proofs.Ytkedckmpjedjoaa

/- The walk of shifted: a tree anew, with its variables so many on. -/
namespace Go.Proofs.Ytkedckmpjedjoaa
open Go.RowKit Go.Shelf
set_option linter.unusedVariables false
set_option linter.unusedSimpArgs false
attribute [-go_sem] Go.Builtin.append_

theorem Node.setN {W : World} {p : Nat} {c : C} {v : Value} (x : Int) (h : Node W p c v) : Node (W.setCell ⟨p, 1, none⟩ (.int .i64 x)) p ⟨c.k, x, c.s⟩ v := by
  obtain ⟨hlt, hk⟩ := Array.getElem?_eq_some_iff.1 h
  show (W.heap.modify p _)[p]? = _
  rw [Array.getElem?_eq_getElem (by rw [Array.size_modify]; exact hlt), Array.getElem_modify_self, hk]
  rfl
theorem Node.frozenN {W : World} {p : Nat} {c : C} {v : Value} (h : Node W p c v) : W.frozen? ⟨p, 1, none⟩ = false := by simp [World.frozen?, show W.heap[p]? = _ from h]
theorem Kids.drew {w : World} {f : Nat} {c : C} {ks : List (List C)} {k : Nat} {v : Value} {zs : List (Nat × List (Nat × C))} {wr : World} (h : Kids w f c ks k v zs wr) : Kids w f c ks k v zs wr.drew := by
  obtain ⟨h1, h2, h3, h4, h5, h6, h7⟩ := h
  exact ⟨h1, h2, h3, h4, fun x hx => Tre.kept (S := Fr (w.heap.size + 1) wr.heap.size w.heap.size v) (W := wr) (W' := wr.drew) (fun _ h => h) (fun _ _ => rfl) (h5 x hx), h6, h7.drew⟩

/-- What shifted hands back. -/
def GotS (n : Int) (w : World) (f : Nat) (z : List (Nat × C)) (e : Ending) (w' : World) : Prop := ∃ q z', e = .returned (.pointer (some ⟨q, 0, none⟩)) ∧ z'.map (·.2) = z.map (fun x => shiftC n x.2) ∧ (z'.map (·.1)).Nodup ∧
  Tre (fun b => w.heap.size ≤ b ∧ b < w'.heap.size) w' f q z' ∧ Below w.heap.size w w'

end Go.Proofs.Ytkedckmpjedjoaa

/- clauseOf of the program. -/
namespace Go.Proofs.Ytkedckmpjedjoaa
open Go.RowKit Go.Shelf
set_option linter.unusedVariables false
set_option linter.unusedSimpArgs false
attribute [-go_sem] Go.Builtin.append_

theorem cell_keep5 {w : World} {a : Addr} {v : Value} (h : w.cell? a = some v) (o : Obj) : (w.alloc o).cell? a = some v := ((cell_below w o).cell (World.block_lt_of_cell? w a h)).trans h
theorem clK_node {wr w2 w3 : World} {P k : Nat} {bv v0 : Value} {vs : List Value} {ob : Obj} (h1 : wr.heap[P]? = some (.cells #[v0, bv] 210 (0, 0))) (h2 : wr.ownsRow (P + 1) 212 1 bv k vs) (hb : Below wr.heap.size wr w2) (hgrow : (w2.alloc ob).grownBy w3 bv.ownBlock) : w3.heap[P]? = some (.cells #[v0, bv] 210 (0, 0)) := by
  have hP : P < wr.heap.size := (Array.getElem?_eq_some_iff.1 h1).1
  have hs2 := hb.size
  have hsa : (w2.alloc ob).heap.size = w2.heap.size + 1 := by simp
  rw [hgrow.block P (by omega) (fun e => by have := (h2.lt P e.symm).1; omega), Below.heap_alloc _ _ _ (by omega), hb.block P hP]
  exact h1

set_option maxRecDepth 100000 in
set_option maxHeartbeats 8000000 in
theorem clauseOf_any (x : Cl) (v0 v1 : Value) (w : World) (hF : FitCl x) (hs : szCl x ≤ 1048576) (hv : ClV w x v0 v1) :
    Calls Try.prog 105 #[.agg #[v0, v1]] w fun e w' => ∃ P, e = .returned (ckV x P) ∧ Below w.heap.size w w' := by
  unfold szCl at hs
  obtain ⟨⟨xa, xc, rfl, a1, a2, hA⟩, ⟨ya, yc, rfl, b1, b2, hB⟩⟩ := hv
  obtain ⟨hb0, d0, d1⟩ := two_new w (.slice xa x.h.length xc) (.slice ya x.g.length yc) 142
  have hgl : x.g.length ≤ 1048576 := by omega
  have HB := hide (fun (W : World) (hW : Below w.heap.size w W) => hB.below hW)
  have HT := hide (fun (W : World) (hW : Below w.heap.size w W) => treeOf_opt w.heap.size xa xc x.h W hW.size a1 a2 (hA.below hW) hF.1.1)
  have HG := hide (fun (k : Nat) (hk : k < x.g.length) (v0 v1 v2 v3 : Value) (W : World) (hv : GlV W x.g[k] v0 v1 v2 v3) => goalOf_gl x.g[k] v0 v1 v2 v3 W (hF.2 _ (List.getElem_mem hk)) (Nat.le_trans (totG_mem (List.getElem_mem hk)) (by omega)) hv)
  obtain ⟨i0, hi, hz0, hz1, hz2⟩ := info_parts (show (Try.prog.info? 212).map (fun i => (i.zero, i.size, i.bytes)) = some (some .nilIface, 1, 16) by kernel_rfl)
  clear hA hB a1 a2 b1 b2 hs hF
  by_cases h4 : x.g.length ≤ 4
  · go_enter Try.func105, Try.ntmps105
    go_wp2_with fail
    generalize w.alloc (.cells #[.slice xa x.h.length xc, .slice ya x.g.length yc] 142) = w0 at hb0 d0 d1 ⊢
    have hl0 : w.heap.size < w0.heap.size := World.block_lt_of_cell? w0 ⟨_, _, none⟩ d1
    refine (unhide HT w0 hb0).mono ?_
    rintro e w1 ⟨o, rfl, hL, hb1⟩
    have e1 := (hb1.cell (p := ⟨w.heap.size, 1, none⟩) hl0).trans d1
    have hB1 := bstep hb0 hb1
    have hl1 : w.heap.size < w1.heap.size := World.block_lt_of_cell? w1 ⟨_, _, none⟩ e1
    have hbl := cell_below w1 (.cells #[ptrV o, .slice none 0 0] 210)
    have hK0 : ClK x o w w1.heap.size 0 (w1.alloc (.cells #[ptrV o, .slice none 0 0] 210)) (.slice none 0 0) :=
      ⟨[], World.alloc_heap_new w1 _, World.ownsRow_nil _ _ _ _, fun i _ h => absurd h (Nat.not_lt_zero _), (show LkP w.heap.size w1.heap.size w1 o x.h from hL).kept (fun b _ hb => Below.heap_alloc _ _ _ hb), Nat.le_of_lt hl1, bstep hB1 hbl⟩
    have f1 := cell_keep5 e1 (.cells #[ptrV o, .slice none 0 0] 210)
    have HK0 := hide hK0
    clear hK0 hL hb1 hl0 d0 d1 hb0 hbl e1 HT
    obtain ⟨P, hP⟩ : ∃ P, P = w1.heap.size := ⟨_, rfl⟩
    unfold ptrV at f1 ⊢
    go_wp2
    rw [← hP]
    have HK1 : Hid (ClK x o w P 0 (w1.alloc (.cells #[.pointer (o.map fun b => ⟨b, 0, none⟩), .slice none 0 0] 210)) (.slice none 0 0)) := by rw [hP]; exact unhide HK0
    generalize w1.alloc (.cells #[.pointer (o.map fun b => ⟨b, 0, none⟩), .slice none 0 0] 210) = wa at f1 HK1 ⊢
    clear HK0 hP hB1 hl1
    go_loopw [18] (fun i wr => ∃ (k : Nat) (bv : Value), k ≤ x.g.length ∧ i = .int .i64 k ∧ ClK x o w P k wr bv) (fun i _ => x.g.length - (intOf i).toNat)
    case atStart => exact ⟨0, _, Nat.zero_le _, rfl, unhide HK1⟩
    case round =>
      obtain ⟨k, bv, hk, rfl, hK⟩ := hrel
      clear HK1 f1
      by_cases hlt : k < x.g.length
      · obtain ⟨vs, hh1, hh2, hh3, hh4, hwP, hBr⟩ := hK
        have hPr : P < wr.heap.size := (Array.getElem?_eq_some_iff.1 hh1).1
        have HH1 := hide hh1
        have HO := hide hh2
        have HH3 := hide hh3
        have HH4 := hide hh4
        obtain ⟨_, hcP, _, _⟩ := clause_cells hh1
        clear hh1 hh2 hh3 hh4
        rcases unhide HB wr hBr with e | ⟨b, off, e, hA⟩
        · rw [e] at hlt; simp at hlt
        subst e
        obtain ⟨v0, v1, v2, v3, g0, g1, g2, g3, hv⟩ := hA k hlt
        have HV := hide hv
        obtain ⟨q0, ⟨pa, pc, q1, _⟩, ⟨qa, qc, q2, _⟩, ⟨ra, rc, q3, _⟩⟩ := hv
        subst q0 q1 q2 q3
        obtain ⟨y, hy⟩ : ∃ y, y = x.g[k] := ⟨_, rfl⟩
        have hbG0 := cell_below wr (.cells #[.int .i64 x.g[k].k, .slice pa x.g[k].a.length pc, .slice qa x.g[k].b.length qc, .slice ra x.g[k].c.length rc] 93)
        have H := hide (unhide HG k hlt _ _ _ _ _ ((unhide HV).below hbG0.drew))
        have hbG := hbG0.drew
        obtain ⟨m1, m2, m3, m4⟩ := four_new wr (.int .i64 x.g[k].k) (.slice pa x.g[k].a.length pc) (.slice qa x.g[k].b.length qc) (.slice ra x.g[k].c.length rc) 93
        have hcPa := cell_keep5 hcP (.cells #[.int .i64 x.g[k].k, .slice pa x.g[k].a.length pc, .slice qa x.g[k].b.length qc, .slice ra x.g[k].c.length rc] 93)
        clear HV hA HG HB hbG0 hy y
        cases hw : wholeG x.g[k] with
        | true =>
          go_wp2
          go_region_with (first
            | (go_at_call 146; refine (unhide H).mono ?_; rintro e w2 ⟨vv, rfl, hG, hb2⟩; obtain ⟨T, u, rfl⟩ := hG.yes hw; have hs2 := hb2.size; have hb20 : Below wr.heap.size wr w2 := bstep hbG hb2; have hP2 : P < w2.heap.size := Nat.lt_of_lt_of_le hPr hb20.size; have hh2 := (hb20.block P hPr).trans (unhide HH1); have hc1 := (clause_cells hh2).2.1; have hc1a : (w2.alloc (.cells #[.iface T u] 212)).cell? ⟨P, 1, none⟩ = some bv := cell_keep5 hc1 (.cells #[.iface T u] 212); obtain ⟨g', cap', w3, hr, hown', hgrow, hat, hgl⟩ := run_append_lies (P := Try.prog) (w2.alloc (.cells #[.iface T u] 212)) 208 208 (P + 1) 212 i0 _ 1 16 Try.underlying208 hi hz0 hz1 hz2 rfl (by decide) bv k vs (World.ownsRow.alloc (own_below (unhide HO) hb20) _) ⟨w2.heap.size, 0, none⟩ 1 1 [.iface T u] rfl (cell_one_new w2 _ _) (by simp [Value.oneCell']) (by omega) (by unfold maxLen; omega) (by omega) (by simp; omega) _ rfl; have hr' : Sem.run Try.prog (Builtin.append_ #[208, 208] 208 #[bv, .slice (some ⟨w2.heap.size, 0, none⟩) 1 1]) (w2.alloc (.cells #[.iface T u] 212)) = .ok (.slice (some ⟨g', 0, none⟩) (k + 1) cap') w3 := hr; clear hr; have hn3 := clK_node (unhide HH1) (unhide HO) hb20 hgrow; obtain ⟨_, hs3, _, hf3⟩ := clause_cells hn3; have HST := hide (clK_step hlt (unhide HH1) (unhide HO) (unhide HH3) (unhide HH4) hwP hBr hb20 (Nat.le_trans hbG.size (Nat.le_refl _)) (Nat.le_refl _) hG hown' hgrow hat); clear hn3 hown' hgrow hat hgl hG))
          all_goals go_wp2
          all_goals go_roundw
          all_goals first | exact ⟨k + 1, _, by omega, by go_num, unhide HST⟩ | (simp [intOf]; omega)
        | false =>
          go_wp2
          go_region_with (first
            | (go_at_call 146; refine (unhide H).mono ?_; rintro e w2 ⟨vv, rfl, hG, hb2⟩; obtain rfl := hG.no hw; have hs2 := hb2.size; have hb20 : Below wr.heap.size wr w2 := bstep hbG hb2; have hP2 : P < w2.heap.size := Nat.lt_of_lt_of_le hPr hb20.size; have hh2 := (hb20.block P hPr).trans (unhide HH1); have hc1 := (clause_cells hh2).2.1; have hc1a : (w2.alloc (.cells #[.nilIface] 212)).cell? ⟨P, 1, none⟩ = some bv := cell_keep5 hc1 (.cells #[.nilIface] 212); obtain ⟨g', cap', w3, hr, hown', hgrow, hat, hgl⟩ := run_append_lies (P := Try.prog) (w2.alloc (.cells #[.nilIface] 212)) 208 208 (P + 1) 212 i0 _ 1 16 Try.underlying208 hi hz0 hz1 hz2 rfl (by decide) bv k vs (World.ownsRow.alloc (own_below (unhide HO) hb20) _) ⟨w2.heap.size, 0, none⟩ 1 1 [.nilIface] rfl (cell_one_new w2 _ _) (by simp [Value.oneCell']) (by omega) (by unfold maxLen; omega) (by omega) (by simp; omega) _ rfl; have hr' : Sem.run Try.prog (Builtin.append_ #[208, 208] 208 #[bv, .slice (some ⟨w2.heap.size, 0, none⟩) 1 1]) (w2.alloc (.cells #[.nilIface] 212)) = .ok (.slice (some ⟨g', 0, none⟩) (k + 1) cap') w3 := hr; clear hr; have hn3 := clK_node (unhide HH1) (unhide HO) hb20 hgrow; obtain ⟨_, hs3, _, hf3⟩ := clause_cells hn3; have HST := hide (clK_step hlt (unhide HH1) (unhide HO) (unhide HH3) (unhide HH4) hwP hBr hb20 (Nat.le_trans hbG.size (Nat.le_refl _)) (Nat.le_refl _) hG hown' hgrow hat); clear hn3 hown' hgrow hat hgl hG))
          all_goals go_wp2
          all_goals go_roundw
          all_goals first | exact ⟨k + 1, _, by omega, by go_num, unhide HST⟩ | (simp [intOf]; omega)
      · have e : k = x.g.length := by omega
        subst e
        obtain ⟨ao, cap, rfl, hM⟩ := clK_end hK
        obtain ⟨_, _, _, _, _, _, hBr⟩ := hK
        have HC := hide (checked_any w.heap.size P x o ao cap wr h4 hM)
        clear hM
        go_wp2_with (go_at_call 147; refine (unhide HC).mono ?_; rintro e w5 ⟨rfl, hb5⟩)
        go_ret
        exact ⟨P, rfl, bstep hBr hb5⟩
  · have h5 : 4 < (x.g.length : Int) := by omega
    have hc : ckV x 0 = .pointer none := by unfold ckV clB; simp [h4]
    have HC := hide hc
    go_enter Try.func105, Try.ntmps105
    go_wp2
    go_ret
    exact ⟨0, by rw [unhide HC]; rfl, hb0⟩
end Go.Proofs.Ytkedckmpjedjoaa
