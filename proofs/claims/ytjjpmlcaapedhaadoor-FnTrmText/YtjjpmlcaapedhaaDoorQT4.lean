/- The walks of firstTree and treeOf. -/
import Derived.Test.YtjjpmlcaapedhaaDoorQT3
import Derived.Test.YtjjpmlcaapedhaaDoorQYW1YB1YB2W2
import Derived.Test.YtjjpmlcaapedhaaDoorQSB1Plain2YB3
namespace Go.Proofs.YtjjpmlcaapedhaaDoor
open Go.RowKit Go.Shelf
set_option linter.unusedVariables false
set_option linter.unusedSimpArgs false

set_option maxRecDepth 100000 in
set_option maxHeartbeats 4000000 in
theorem first_any (n₀ : Nat) : ∀ (f : Nat) (t r : List C) (v : Value) (w : World), Tm f t → (∀ c ∈ t, okC c = true) → (t ++ r).length ≤ 1048576 → n₀ ≤ w.heap.size → Sl n₀ w v (t ++ r) →
      Calls Tryd.prog 44 #[v] w (Got n₀ w f t r)
  | 0, _, _, _, _, h, _, _, _, _ => h.elim
  | f + 1, t, r, v, w, hT, hok, hm, hn₀, hv => by
    have ih := first_any n₀ f
    obtain ⟨c, ks, rfl, hkl, hks⟩ := hT
    obtain ⟨ao, cap, rfl, hcap, hcm, hR⟩ := hv
    have hA : ∃ b off, ao = some ⟨b, off, none⟩ ∧ b < n₀ ∧ At w b off (c :: (ks.flatten ++ r)) := by
      rcases hR with h | h
      · cases h
      · exact h
    obtain ⟨b, off, rfl, hbn, hA⟩ := hA
    obtain ⟨c0, c1, c2⟩ := hA 0 (by simp)
    simp at c0 c1 c2
    have ha := ari_ok (hok c (by simp))
    have hbl := World.block_lt_of_cell? w ⟨b, off, none⟩ c0
    obtain ⟨u, hu⟩ : ∃ u, u = ks.flatten ++ r := ⟨_, rfl⟩
    rw [← hu] at hA
    rw [List.cons_append, ← hu] at hcap hm ⊢
    simp only [List.length_cons] at hcap hm ⊢
    have HA := hide hA
    have HU := hide hu
    have HKS := hide hks
    have HOK := hide hok
    have HKL := hide hkl
    have HCM := hide hcm
    have HIH := hide ih
    clear hA hu hks hok hkl hcm ih hR
    obtain ⟨i0, hi, hz0, hz1, hz2⟩ := info_parts (show (Tryd.prog.info? 44).map (fun i => (i.zero, i.size, i.bytes)) = some (some (.pointer none), 1, 8) by kernel_rfl)
    go_enter Tryd.func44, Tryd.ntmps44
    go_wp2_with fail
    go_region
    have hR0 : u = [] ∨ ∃ b' off', (if cap = 1 then some (⟨b, off, none⟩ : Addr) else some ⟨b, off + 3, none⟩) = some ⟨b', off', none⟩ ∧ b' < n₀ ∧ At w b' off' u := by
      by_cases hc1 : cap = 1
      · exact .inl (List.length_eq_zero_iff.1 (by omega))
      · rw [if_neg hc1]
        refine .inr ⟨b, off + 3, rfl, hbn, fun i hi => ?_⟩
        have := unhide HA (i + 1) (by simp; omega)
        simp only [List.getElem_cons_succ] at this
        rw [show off + 3 + i * 3 = off + (i + 1) * 3 by omega]
        exact this
    have hb0 : Below w.heap.size w (w.alloc (.cells #[.int .i64 c.k, .int .i64 c.n, .string c.s, .slice none 0 0] 71)).drew := ((Below.refl _ w).alloc (Nat.le_refl _) _).drew
    have hn0 : Node (w.alloc (.cells #[.int .i64 c.k, .int .i64 c.n, .string c.s, .slice none 0 0] 71)).drew w.heap.size c (.slice none 0 0) := World.alloc_heap_new w _
    generalize (if cap = 1 then some (⟨b, off, none⟩ : Addr) else some ⟨b, off + 3, none⟩) = a0 at hR0 ⊢
    have hS0 : Sl n₀ w (.slice a0 u.length (cap - 1)) u := ⟨a0, cap - 1, rfl, by omega, by have := unhide HCM; omega, hR0⟩
    have d0 := (hb0.cell (p := ⟨b, off, none⟩) hbl).trans c0
    have d1 := (hb0.cell (p := ⟨b, off + 1, none⟩) hbl).trans c1
    have d2 := (hb0.cell (p := ⟨b, off + 2, none⟩) hbl).trans c2
    generalize (w.alloc (.cells #[.int .i64 c.k, .int .i64 c.n, .string c.s, .slice none 0 0] 71)).drew = w0 at hb0 hn0 d0 d1 d2 ⊢
    go_wp2_with (go_at_call 29; refine (cellArity_any c _).mono ?_; rintro e w1 ⟨rfl, hb1⟩)
    rw [← unhide HKL] at ha ⊢
    have hk3 : ks.length ≤ 3 := by omega
    have hK1 : Kids w f c ks 0 (.slice none 0 0) [] w1 := ⟨by simp, rfl, (hb1.block _ hn0.lt).trans hn0, World.ownsRow_nil _ _ _ _, by simp, by simp, bstep hb0 hb1⟩
    go_loopw [5, 18] (fun rest i wr => ∃ (k : Nat) (v : Value) (zs : List (Nat × List (Nat × C))), k ≤ ks.length ∧ i = .int .i64 k ∧ Sl n₀ wr rest ((ks.drop k).flatten ++ r) ∧ Kids w f c ks k v zs wr) (fun _ i _ => ks.length - (intOf i).toNat)
    case atStart =>
      refine ⟨0, _, [], Nat.zero_le _, rfl, ?_, hK1⟩
      rw [List.drop_zero, ← unhide HU]
      exact hS0.below ((bstep hb0 hb1).mono hn₀)
    case round =>
      obtain ⟨k, v, zs, hk, rfl, hS, hK⟩ := hrel
      by_cases hlt : k < ks.length
      · have hdr : (ks.drop k).flatten ++ r = ks[k] ++ ((ks.drop (k + 1)).flatten ++ r) := by rw [List.drop_eq_getElem_cons hlt, List.flatten_cons, List.append_assoc]
        rw [hdr] at hS
        obtain ⟨h1, h2, h3, h4, h5, h6, h7⟩ := id hK
        have hsz := h7.size
        have hPl := h3.lt
        have HI := hide (unhide HIH ks[k] ((ks.drop (k + 1)).flatten ++ r) _ wr (unhide HKS _ (List.getElem_mem hlt)) (fun c' hc' => unhide HOK c' (by simp; exact .inr ⟨_, List.getElem_mem hlt, hc'⟩)) (by
          have e1 := congrArg List.length hdr
          have e2 : ((ks.drop k).flatten ++ r).length ≤ u.length := by
            rw [unhide HU]
            conv => rhs; rw [← List.take_append_drop k ks]
            simp only [List.flatten_append, List.length_append]
            omega
          omega) (by omega) hS)
        have HK := hide hK
        have HN := hide h3
        have HO := hide h4
        clear hdr hS h1 h2 h3 h4 h5 h6 hK hR0 hS0 hK1
        go_wp2_with (first
          | (go_at_call 44; refine (unhide HI).mono ?_; clear HI; rintro e w2 ⟨p, z, v', rfl, hz, hnd, hT, hS', hb2⟩; have hq := hide hz; have hq2 := hide hnd; have hq3 := hide hT; have hq4 := hide hS'; clear hz hnd hT hS'; have hsz2 := hb2.size; have hc3 : w2.cell? ⟨w.heap.size, 3, none⟩ = some v := Node.cell ((hb2.block _ hPl).trans (unhide HN)))
          | (at_builtin; refine wpList_append_lies _ rfl (.tmp 29) (.tmp 31) 69 rfl w.heap.size 44 i0 _ 1 8 Tryd.underlying69 hi hz0 hz1 hz2 rfl (by decide) v k _ rfl (World.ownsRow.alloc (own_below (unhide HO) hb2) _) ⟨w2.heap.size, 0, none⟩ 1 1 [.pointer (some ⟨p, 0, none⟩)] rfl rfl (cell_one_new _ _ _) (by simp [Value.oneCell']) (by omega) (by unfold maxLen; omega) (by omega) (by simp; omega) (w2.heap.size + 1) (by simp) ?_; intro g' cap' w3 hown' hgrow hat hgl; have hn3 := kids_node (unhide HK) hb2 hgrow; have hs3 := hn3.cell; have hf3 := hn3.frozen; have HST := hide (kids_step (unhide HK) hlt hb2 (unhide hq3) (unhide hq) (unhide hq2) hown' hgrow hat); clear hn3 hown' hgrow hat hgl))
        go_roundw
        case rel =>
          refine ⟨k + 1, _, _, by omega, by go_num, ?_, (unhide HST).1⟩
          exact (unhide hq4).below ((unhide HST).2.mono hn₀)
        case measure => simp [intOf]; omega
      · have e : k = ks.length := by omega
        subst e
        rw [List.drop_length] at hS
        obtain ⟨z, hz, hnd, hT⟩ := kids_end hK hk3 (unhide HKL)
        have hB := hK.2.2.2.2.2.2
        go_wp2
        go_ret2
        exact ⟨_, z, _, rfl, hz, hnd, hT, hS, hB⟩

/-- treeOf of a term. -/
def GotT (n₀ : Nat) (w : World) (t : List C) (e : Ending) (w' : World) : Prop := ∃ p z, e = .returned (.pointer (some ⟨p, 0, none⟩)) ∧ z.map (·.2) = t ∧ (z.map (·.1)).Nodup ∧
        Tre (fun b => w.heap.size ≤ b ∧ b < w'.heap.size) w' t.length p z ∧ Below w.heap.size w w'

set_option maxHeartbeats 400000 in
theorem treeOf_yes (n₀ : Nat) (ao : Option Addr) (cap : Nat) (t : List C) (w : World) (hcap : t.length ≤ cap) (hcm : cap ≤ maxLen) (hn₀ : n₀ ≤ w.heap.size) (hA : Row w ao t) (hF : Fit t) (hy : trm t = true) :
    Calls Tryd.prog 25 #[.slice ao t.length cap] w (GotT n₀ w t) := by
  have hl := trm_len hy
  have H := hide (TrmOk_any ao cap t w (by omega) hA hF)
  rw [hy] at H
  have HS : Hid (Sl w.heap.size w (.slice ao t.length cap) (t ++ [])) := by
    refine ⟨ao, cap, by rw [List.append_nil], by rw [List.append_nil]; exact hcap, hcm, ?_⟩
    rw [List.append_nil]
    exact hA.imp_right fun ⟨b, off, e, h⟩ => ⟨b, off, e, h.lt (by omega), h⟩
  have HT := hide (trm_tree hy)
  have HOK := hide ((trm_iff t).1 hy).2.2.1
  go_enter Tryd.func25, Tryd.ntmps25
  go_wp2_with (first | (go_at_call 12; refine (unhide H).mono ?_; rintro e w1 ⟨rfl, hb1⟩) | (go_at_call 44; refine (first_any w.heap.size t.length t [] _ _ (unhide HT) (unhide HOK) (by simp; omega) hb1.size ((unhide HS).below hb1)).mono ?_; rintro e w2 ⟨p, z, v', rfl, hz, hnd, hT, _, hb2⟩; have HZ := hide (And.intro hz (And.intro hnd hT)); clear hz hnd hT))
  go_ret
  obtain ⟨hz, hnd, hT⟩ := unhide HZ
  exact ⟨p, z, rfl, hz, hnd, hT.kept (fun b hb => ⟨by have := hb1.size; omega, hb.2⟩) (fun _ _ => rfl), bstep hb1 hb2⟩
end Go.Proofs.YtjjpmlcaapedhaaDoor
