/- Trees as shapes with what they hold; the walk of TrmArg. -/
import Derived.Test.YtddhjafpacgdaaaT4
import Derived.Test.YtddhjafpacgdaaaW18
namespace Go.Proofs.Ytddhjafpacgdaaa
open Go.RowKit Go.Shelf
set_option linter.unusedVariables false
set_option linter.unusedSimpArgs false

theorem Tre.tm {S : Nat → Prop} {W : World} : ∀ {f p : Nat} {z : List (Nat × C)}, Tre S W f p z → Tm f (z.map (·.2))
  | f + 1, p, z, ⟨c, ks, ao, cap, e, hp, hl, hn, hr, hs⟩ => by
      refine ⟨c, ks.map (fun k => k.2.map (·.2)), ?_, by simpa using hl.2, fun k hk => ?_⟩
      · rw [e, List.map_cons, List.map_flatten, List.map_map]; rfl
      · obtain ⟨q, hq, rfl⟩ := List.mem_map.1 hk
        exact (hs q hq).tm

theorem Tre.shp {S : Nat → Prop} {n₀ : Nat} {W : World} (hS : ∀ b, S b → b < n₀) : ∀ {f p : Nat} {z : List (Nat × C)}, Tre S W f p z → Shp n₀ W f p (z.map (·.1))
  | f + 1, p, z, ⟨c, ks, ao, cap, e, hp, hl, hn, hr, hs⟩ => by
      refine ⟨ks.map (fun k => (k.1, k.2.map (·.1))), ao, cap, ?_, hS p hp, by rw [List.length_map]; unfold maxLen; omega, by rw [List.length_map]; exact hn.cell, ?_, ?_⟩
      · rw [e, List.map_cons, List.map_flatten, List.map_map, List.map_map]; rfl
      · rcases hr with rfl | ⟨q, e, hq, h⟩
        · exact .inl rfl
        · refine .inr ⟨q, e, hS q hq, fun i hi => ?_⟩
          rw [List.length_map] at hi
          rw [h i hi, List.getElem_map]
      · intro k hk
        obtain ⟨q, hq, rfl⟩ := List.mem_map.1 hk
        exact (hs q hq).shp hS

theorem Tre.held {S : Nat → Prop} {n₀ : Nat} {W : World} (hS : ∀ b, S b → b < n₀) : ∀ {f p : Nat} {z : List (Nat × C)}, Tre S W f p z → ∀ x ∈ z, Held n₀ W x
  | f + 1, p, z, ⟨c, ks, ao, cap, e, hp, hl, hn, hr, hs⟩, x, hx => by
      rw [e] at hx
      rcases List.mem_cons.1 hx with rfl | hx
      · exact ⟨hS p hp, hn.cells.1, hn.cells.2.1, hn.cells.2.2⟩
      · obtain ⟨l, hl, hx⟩ := List.mem_flatten.1 hx
        obtain ⟨k, hk, rfl⟩ := List.mem_map.1 hl
        exact (hs k hk).held hS x hx

/-- The first m terms of places. -/
def split : Nat → List C → List (List C)
  | 0, _ => []
  | m + 1, t => match ends 1 t with
    | some j => t.take j :: split m (t.drop j)
    | none => []

theorem split_trees {f : Nat} (r : List C) : ∀ (ks : List (List C)), (∀ k ∈ ks, Tm f k) → split ks.length (ks.flatten ++ r) = ks
  | [], _ => rfl
  | k :: ks, h => by
      have e := ends_of_tree f k (h k (by simp)) 0 (ks.flatten ++ r)
      have z : ∀ r, ends (0 : Nat) r = some 0 := fun r => by cases r <;> simp [ends]
      rw [z] at e
      simp at e
      rw [List.flatten_cons, List.append_assoc, List.length_cons]
      simp only [split, e]
      rw [List.take_left, List.drop_left, split_trees r ks (fun q hq => h q (by simp [hq]))]

/-- The k-th argument of places that are a term. -/
def argOf (t : List C) (k : Int) : List C := if trm t = true ∧ 0 ≤ k then ((split (ari (t.headD ⟨0, 0, ByteArray.empty⟩)).toNat t.tail)[k.toNat]?).getD [] else []

theorem argOf_no {t : List C} {k : Int} (h : trm t = false) : argOf t k = [] := by simp [argOf, h]
theorem argOf_neg {t : List C} {k : Int} (h : k < 0) : argOf t k = [] := by
  unfold argOf; rw [if_neg (fun h' => by omega)]
theorem argOf_at {f : Nat} {c : C} {ks : List (List C)} (ht : trm (c :: ks.flatten) = true) (hl : (ks.length : Int) = ari c) (hk : ∀ k ∈ ks, Tm f k) {i : Int} (hi : 0 ≤ i) : argOf (c :: ks.flatten) i = (ks[i.toNat]?).getD [] := by
  unfold argOf
  rw [if_pos ⟨ht, hi⟩]
  have := split_trees [] ks hk
  rw [List.append_nil] at this
  simp only [List.headD_cons, List.tail_cons]
  rw [← hl, Int.toNat_natCast, this]

theorem arg_trm {f : Nat} {c : C} {ks : List (List C)} (ht : trm (c :: ks.flatten) = true) (hk : ∀ k ∈ ks, Tm f k) {k : List C} (h : k ∈ ks) : trm k = true := by
  have h0 := (trm_iff _).1 ht
  have hsub : ∀ q ∈ k, q ∈ c :: ks.flatten := fun q hq => List.mem_cons_of_mem _ (List.mem_flatten.2 ⟨k, h, hq⟩)
  have hlen : k.length ≤ ks.flatten.length := by
    have := (List.sublist_flatten_of_mem h).length_le
    exact this
  refine tree_trm (hk k h) ?_ (fun q hq => h0.2.2.1 q (hsub q hq))
  have := h0.2.1
  simp only [List.length_cons] at this
  omega

theorem argOf_len (t : List C) (k : Int) : (argOf t k).length ≤ 40 := by
  by_cases h : trm t = true
  · by_cases hk : 0 ≤ k
    · obtain ⟨f, c, ks, e, hl, hks⟩ : ∃ f c ks, t = c :: ks.flatten ∧ ((ks : List (List C)).length : Int) = ari c ∧ ∀ k ∈ ks, Tm f k := by
        have := trm_tree h
        obtain ⟨n, hn⟩ : ∃ n, t.length = n + 1 := ⟨t.length - 1, by have := (trm_iff t).1 h; omega⟩
        rw [hn] at this
        obtain ⟨c, ks, e, hl, hk⟩ := this
        exact ⟨n, c, ks, e, hl, hk⟩
      subst e
      rw [argOf_at h hl hks hk]
      rcases hq : ks[k.toNat]? with _ | q
      · simp
      · have := arg_trm h hks (List.mem_of_getElem? hq)
        exact ((trm_iff q).1 this).2.1
    · rw [argOf_neg (by omega)]; simp
  · rw [argOf_no (by simpa using h)]; simp

set_option maxRecDepth 100000 in
set_option maxHeartbeats 1000000 in
theorem TrmArg_any (ao : Option Addr) (cap : Nat) (t : List C) (k : Int) (w : World) (hm : t.length ≤ maxLen) (hcap : t.length ≤ cap) (hcm : cap ≤ maxLen) (hA : Row w ao t) (hF : Fit t) :
    Calls Try.prog 47 #[.slice ao t.length cap, .int .i64 k] w fun e w' => ∃ v, e = .returned v ∧ OwnC w' w.heap.size v (argOf t k) ∧ Below w.heap.size w w' := by
  cases hy : trm t with
  | false =>
    have H := hide (treeOf_no ao cap t w hm hA hF hy)
    rw [argOf_no hy]
    go_enter Try.func47, Try.ntmps47
    go_wp2_with (go_at_call 67; refine (unhide H).mono ?_; rintro e w1 ⟨rfl, hb1⟩)
    go_ret
    exact ⟨_, rfl, World.ownsRow_nil _ _ _ _, hb1⟩
  | true =>
    have H := hide (treeOf_yes w.heap.size ao cap t w hcap hcm (Nat.le_refl _) hA hF hy)
    have hl := trm_len hy
    have HY := hide hy
    have HF := hide hF
    clear hy hF hA
    go_enter Try.func47, Try.ntmps47
    go_wp2_with fail
    refine (unhide H).mono ?_
    clear H
    rintro e w1 ⟨p, z, rfl, hz, hnd, hT, hb1⟩
    obtain ⟨n, hn⟩ : ∃ n, t.length = n + 1 := ⟨t.length - 1, by omega⟩
    rw [hn] at hT
    clear hn
    have hT0 := hT
    obtain ⟨c, ks, ao1, cap1, e, hp, hl3, hN, hr, hs⟩ := hT
    have hc3 := hN.cell
    have htz : t = c :: (ks.map (fun q => q.2.map (·.2))).flatten := by
      rw [← hz, e, List.map_cons, List.map_flatten, List.map_map]; rfl
    have hkm : ∀ q ∈ ks.map (fun q => q.2.map (·.2)), Tm n q := fun q hq => by
      obtain ⟨q', hq', rfl⟩ := List.mem_map.1 hq
      exact (hs q' hq').tm
    have HARG : Hid (∀ i : Int, 0 ≤ i → argOf t i = ((ks.map (fun q => q.2.map (·.2)))[i.toNat]?).getD []) := fun i hi => by
      have hy := unhide HY
      rw [htz] at hy ⊢
      exact argOf_at hy (by simpa using hl3.2) hkm hi
    have HTR : Hid (∀ q ∈ ks, trm (q.2.map (·.2)) = true) := fun q hq => by
      have hy := unhide HY
      rw [htz] at hy
      exact arg_trm hy hkm (List.mem_map.2 ⟨q, hq, rfl⟩)
    have HFK : Hid (∀ q ∈ ks, Fit (q.2.map (·.2))) := fun q hq x hx => unhide HF x (by rw [htz]; exact List.mem_cons_of_mem _ (List.mem_flatten.2 ⟨_, List.mem_map.2 ⟨q, hq, rfl⟩, hx⟩))
    have HS := hide hs
    have HR := hide hr
    clear htz hkm hz hnd hT0 e hs hr
    by_cases h0 : k < 0
    · go_wp2
      go_ret
      exact ⟨_, rfl, by rw [argOf_neg h0]; exact World.ownsRow_nil _ _ _ _, hb1⟩
    · have h0' : 0 ≤ k := by omega
      have HE0 := hide (unhide HARG k h0')
      by_cases h1 : k < ks.length
      · obtain ⟨j, rfl⟩ := Int.eq_ofNat_of_zero_le h0'
        have hj : j < ks.length := by omega
        rcases unhide HR with hr | ⟨q, rfl, hq, hr⟩
        · rw [hr] at hj; simp at hj
        have hcj := hr j hj
        have hsj := unhide HS _ (List.getElem_mem hj)
        have hkt := unhide HTR _ (List.getElem_mem hj)
        have HL := hide (list_any n ks[j].1 ks[j].2 (ks[j].2.map (·.2)) (hide rfl) w1 (hsj.shp (fun b hb => hb.2)) (hsj.held (fun b hb => hb.2)) (by have := (trm_iff _).1 hkt; rw [List.length_map] at this; omega) (unhide HFK _ (List.getElem_mem hj)))
        have HE := hide (show argOf t (j : Int) = listed (ks[j].2.map (·.2)) by
          rw [unhide HE0, Int.toNat_natCast, List.getElem?_map, List.getElem?_eq_getElem hj]
          simp [listed, hkt])
        clear hsj hkt hr HE0
        go_wp2_with (go_at_call 69; refine (unhide HL).mono ?_; rintro e w2 ⟨v, rfl, hO, hb2⟩)
        go_ret
        exact ⟨_, rfl, by rw [unhide HE]; exact OwnC.base hO hb1.size, bstep hb1 hb2⟩
      · have HE := hide (show argOf t k = [] by
          rw [unhide HE0, List.getElem?_eq_none (by simp; omega)]; rfl)
        clear HE0
        go_wp2
        go_ret
        exact ⟨_, rfl, by rw [unhide HE]; exact World.ownsRow_nil _ _ _ _, hb1⟩
end Go.Proofs.Ytddhjafpacgdaaa
