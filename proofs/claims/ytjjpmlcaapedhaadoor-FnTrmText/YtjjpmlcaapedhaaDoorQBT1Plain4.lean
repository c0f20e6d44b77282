import Derived.Test.YtjjpmlcaapedhaaDoorQD5
import Derived.Test.YtjjpmlcaapedhaaDoorQW10W13
import Derived.Test.YtjjpmlcaapedhaaDoorQPlainMemOpenOpen2
/- A text with one byte put in, taken out or turned, as the draws make it. -/
namespace Go.Proofs.YtjjpmlcaapedhaaDoor
open Go.RowKit
set_option linter.unusedVariables false
set_option linter.unusedSimpArgs false

/-- A text was drawn. -/
def BentOut (w : World) (R p d n : Nat) (e : Ending) (w' : World) : Prop := ∃ (s : ByteArray) (p' : Nat), e = .returned (.string s) ∧ s.size ≤ n ∧ p ≤ p' ∧ p' ≤ p + d ∧ Rd w' R p' ∧ w.grownBy w' (some R)

theorem lit11 (y : Int) (hy0 : 0 ≤ y) (hy1 : y < 256) (j : Nat) (hj : j < 11) : ∃ x : Int, 0 ≤ x ∧ x < 256 ∧
    ∀ (W w2 : World) (R : Nat), R < W.heap.size → (W.alloc (.cells #[.int .i64 32, .int .i64 48, .int .i64 49, .int .i64 57, .int .i64 45, .int .i64 97, .int .i64 88, .int .i64 40, .int .i64 41, .int .i64 44, .int .i64 y] 3)).grownBy w2 (some R) → w2.cell? ⟨W.heap.size, j, none⟩ = some (.int .i64 x) := by
  have hb : ∀ x ∈ ([32, 48, 49, 57, 45, 97, 88, 40, 41, 44, y] : List Int), 0 ≤ x ∧ x < 256 := by
    intro x hx
    simp at hx
    omega
  have hx := hb _ (List.getElem_mem (l := [32, 48, 49, 57, 45, 97, 88, 40, 41, 44, y]) (n := j) (by simp; omega))
  exact ⟨([32, 48, 49, 57, 45, 97, 88, 40, 41, 44, y] : List Int)[j]'(by simp; omega), hx.1, hx.2, fun W w2 R hR hg => pick_lit (xs := [32, 48, 49, 57, 45, 97, 88, 40, 41, 44, y]) hR hg (by simp; omega)⟩

set_option maxRecDepth 100000 in
set_option maxHeartbeats 2000000 in
theorem l20Bent_any (R p : Nat) (s : ByteArray) (w : World) (hs : s.size ≤ 100000) (hp : p ≤ 999980000) (h : Rd w R p) :
    Calls Tryd.prog 21 #[.pointer (some ⟨R, 0, none⟩), .string s] w (BentOut w R p 4 (s.size + 1)) := by
  have hlt := h.lt
  go_enter Tryd.func21, Tryd.ntmps21
  go_wp2_with fail
  refine (pick_any R p (s.size + 1) _ (by omega) (by omega) (by omega) h).mono ?_
  rintro e w1 ⟨r1, rfl, h10, h11, hR1, hG1⟩
  obtain ⟨k, rfl⟩ := Int.eq_ofNat_of_zero_le h10
  have hk : k ≤ s.size := by omega
  go_wp2_with fail
  refine (pick_any R (p + 1) 256 _ (by omega) (by omega) (by omega) hR1).mono ?_
  rintro e w2 ⟨y, rfl, h20, h21, hR2, hG2⟩
  go_wp2_with fail
  refine (pick_any R (p + 1 + 1) 11 _ (by omega) (by omega) (by omega) (hR2.alloc _)).mono ?_
  rintro e w3 ⟨r3, rfl, h30, h31, hR3, hG3⟩
  obtain ⟨j, rfl⟩ := Int.eq_ofNat_of_zero_le h30
  obtain ⟨x, hx0, hx1, hlit⟩ := lit11 y h20 h21 j (by omega)
  have hc := hlit w2 w3 R hR2.lt hG3
  have hcv := conv1 w3 x
  have hg3 : w.grownBy w3 (some R) := grown_trans (grown_trans hG1 hG2) (grown_trans (grown_alloc _ _ _) hG3)
  obtain ⟨u, hu⟩ : ∃ u : ByteArray, u = ⟨#[UInt8.ofNat x.toNat]⟩ := ⟨_, rfl⟩
  have hu1 : u.size = 1 := by rw [hu]; rfl
  rw [← hu] at hcv
  clear hu hlit hG1 hG2 hG3 h20 h21 h10 h11 h30
  go_wp2_with fail
  refine (pick_any R (p + 1 + 1 + 1) 3 _ (by omega) (by omega) (by omega) (hR3.alloc _)).mono ?_
  rintro e w4 ⟨r4, rfl, h40, h41, hR4, hG4⟩
  have hg4 : w.grownBy w4 (some R) := grown_trans hg3 (grown_trans (grown_alloc _ _ _) hG4)
  have HF2 := hide (fun (r : ByteArray) (nq : Nat) (hr : r.size ≤ s.size + 1) => (show BentOut w R p 4 (s.size + 1) (.returned (.string r)) (w4.drewN nq) from ⟨r, _, rfl, hr, by omega, by omega, hR4, ⟨hg4.os, hg4.tape, hg4.output, hg4.size, hg4.block⟩⟩))
  have HF := hide (fun (r : ByteArray) (hr : r.size ≤ s.size + 1) => (show BentOut w R p 4 (s.size + 1) (.returned (.string r)) w4 from ⟨r, _, rfl, hr, by omega, by omega, hR4, hg4⟩))
  have hA : (s.extract 0 k).size = k := by simp; omega
  have hB : (s.extract k s.size).size = s.size - k := by simp
  have q1 : (0 : Int) ≤ (k : Int) := by omega
  have q2 : (k : Int) ≤ (s.size : Int) := by omega
  have qs : s.size ≤ 100000 := hs
  clear hg4 hg3 hR4 hG4 hR3 hR2 hR1 hc hcv
  rcases (show r4 = 0 ∨ r4 = 1 ∨ r4 = 2 by omega) with rfl | rfl | rfl
  · have hcat1 : ¬ ((s.extract 0 k).size + u.size > 9223372036854775807) := by omega
    have hcat2 : ¬ ((s.extract 0 k ++ u).size + (s.extract k s.size).size > 9223372036854775807) := by rw [ByteArray.size_append]; omega
    go_wp2_with fail
    go_quiet (fail)
    go_wp2
    go_ret
    refine unhide HF2 _ _ ?_
    (try simp only [ByteArray.size_append, ByteArray.size_extract]); omega
  · by_cases hlt2 : k < s.size
    · have q3 : (0 : Int) ≤ (k : Int) + 1 := by omega
      have q4 : (k : Int) + 1 ≤ (s.size : Int) := by omega
      have hC : (s.extract (k + 1) s.size).size = s.size - (k + 1) := by simp
      have hcat1 : ¬ ((s.extract 0 k).size + (s.extract (k + 1) s.size).size > 9223372036854775807) := by omega
      go_wp2_with fail
      go_quiet (fail)
      go_wp2
      go_ret
      refine unhide HF2 _ _ ?_
      (try simp only [ByteArray.size_append, ByteArray.size_extract]); omega
    · have FIN := hide (unhide HF s (by omega))
      clear HF HF2
      go_wp2
      go_ret
      exact unhide FIN

  · by_cases hlt2 : k < s.size
    · have q3 : (0 : Int) ≤ (k : Int) + 1 := by omega
      have q4 : (k : Int) + 1 ≤ (s.size : Int) := by omega
      have hC : (s.extract (k + 1) s.size).size = s.size - (k + 1) := by simp
      have hcat1 : ¬ ((s.extract 0 k).size + u.size > 9223372036854775807) := by omega
      have hcat2 : ¬ ((s.extract 0 k ++ u).size + (s.extract (k + 1) s.size).size > 9223372036854775807) := by rw [ByteArray.size_append]; omega
      go_wp2_with fail
      go_quiet (fail)
      go_wp2
      go_ret
      refine unhide HF2 _ _ ?_
      (try simp only [ByteArray.size_append, ByteArray.size_extract]); omega
    · have FIN := hide (unhide HF s (by omega))
      clear HF HF2
      go_wp2
      go_ret
      exact unhide FIN

end Go.Proofs.YtjjpmlcaapedhaaDoor

/- The plain mathematics of terms as trees: a place, and as many terms behind it as it has arguments. -/
namespace Go.Proofs.YtjjpmlcaapedhaaDoor
set_option linter.unusedSimpArgs false
set_option linter.unusedVariables false

/-- Places are one tree, no higher than f. -/
def Tm : Nat → List C → Prop
  | 0, _ => False
  | f + 1, t => ∃ (c : C) (ks : List (List C)), t = c :: ks.flatten ∧ (ks.length : Int) = ari c ∧ ∀ k ∈ ks, Tm f k

theorem Tm.mono : ∀ {f g : Nat} {t : List C}, Tm f t → f ≤ g → Tm g t
  | f + 1, g + 1, t, ⟨c, ks, e, hl, hk⟩, h => ⟨c, ks, e, hl, fun k hm => (hk k hm).mono (by omega)⟩

theorem Tm.pos : ∀ {f : Nat} {t : List C}, Tm f t → 1 ≤ t.length
  | f + 1, t, ⟨c, ks, e, hl, hk⟩ => by rw [e]; simp

theorem ends_trees : ∀ (t : List C) (m : Nat) (j : Nat), (∀ c ∈ t, 0 ≤ ari c) → ends m t = some j → ∃ ks : List (List C), ks.length = m ∧ ks.flatten = t.take j ∧ ∀ k ∈ ks, Tm t.length k
  | [], m, j, _, h => by
      by_cases hm : (m : Int) ≤ 0
      · exact ⟨[], by simp; omega, by simp, by simp⟩
      · simp [ends, hm] at h; omega
  | c :: r, m, j, ha, h => by
      by_cases hm : (m : Int) ≤ 0
      · have hm0 : m = 0 := by omega
        subst hm0
        simp [ends] at h
        exact ⟨[], by simp, by simp [← h], by simp⟩
      · simp only [ends, if_neg hm, Option.map_eq_some_iff] at h
        obtain ⟨j', hj, rfl⟩ := h
        have hc := ha c (by simp)
        obtain ⟨a, hae⟩ : ∃ a : Nat, (a : Int) = ari c := ⟨(ari c).toNat, by omega⟩
        rw [← hae, show (m : Int) - 1 + a = ((m - 1 + a : Nat) : Int) by omega] at hj
        obtain ⟨ks, hl, hf, hk⟩ := ends_trees r (m - 1 + a) j' (fun c' h' => ha c' (by simp [h'])) hj
        refine ⟨(c :: (ks.take a).flatten) :: ks.drop a, by simp; omega, ?_, ?_⟩
        · rw [List.flatten_cons, List.take_succ_cons, ← hf, List.cons_append, ← List.flatten_append, List.take_append_drop]
        · intro k hkm
          rcases List.mem_cons.1 hkm with rfl | hkm
          · exact ⟨c, ks.take a, rfl, by rw [List.length_take, ← hae]; omega, fun k' h' => hk k' (List.mem_of_mem_take h')⟩
          · exact (hk k (List.mem_of_mem_drop hkm)).mono (by simp)

theorem trm_tree {t : List C} (h : trm t = true) : Tm t.length t := by
  obtain ⟨h1, h2, h3, h4⟩ := (trm_iff t).1 h
  obtain ⟨ks, hl, hf, hk⟩ := ends_trees t 1 t.length (fun c hc => (ari_ok (h3 c hc)).1) h4
  match ks, hl with
  | [k], _ =>
    simp at hf
    subst hf
    exact hk k (by simp)

theorem ends_of_tree : ∀ (f : Nat) (t : List C), Tm f t → ∀ (m : Nat) (r : List C), ends (m + 1) (t ++ r) = (ends m r).map (· + t.length)
  | f + 1, t, ⟨c, ks, e, hl, hk⟩, m, r => by
      have all : ∀ (ks : List (List C)), (∀ k ∈ ks, Tm f k) → ∀ (m : Nat), ends ((m + ks.length : Nat) : Int) (ks.flatten ++ r) = (ends m r).map (· + ks.flatten.length) := by
        intro ks
        induction ks with
        | nil => intro _ m; simp
        | cons k ks ih =>
          intro hk m
          have e1 := ends_of_tree f k (hk k (by simp)) (m + ks.length) (ks.flatten ++ r)
          have e2 := ih (fun k' h' => hk k' (by simp [h'])) m
          rw [List.flatten_cons, List.append_assoc, List.length_cons, show ((m + (ks.length + 1) : Nat) : Int) = ((m + ks.length : Nat) : Int) + 1 by omega, e1, e2, Option.map_map, List.length_append]
          congr 1
          funext x
          simp; omega
      subst e
      rw [List.cons_append]
      simp only [ends]
      rw [if_neg (by omega), show (m : Int) + 1 - 1 + ari c = ((m + ks.length : Nat) : Int) by omega, all ks hk m, Option.map_map]
      congr 1

theorem tree_trm {f : Nat} {t : List C} (h : Tm f t) (hl : t.length ≤ 40) (ho : ∀ c ∈ t, okC c = true) : trm t = true := by
  refine (trm_iff t).2 ⟨h.pos, hl, ho, ?_⟩
  have := ends_of_tree f t h 0 []
  simp [ends] at this
  exact this

/-- Terms one behind another are told apart by where they end. -/
theorem trees_one : ∀ {f : Nat} (ks ks' : List (List C)), (∀ k ∈ ks, Tm f k) → (∀ k ∈ ks', Tm f k) → ks.flatten = ks'.flatten → ks = ks'
  | f, [], [], _, _, _ => rfl
  | f, [], k :: ks', _, h, e => by
      have h1 := (h k (by simp)).pos
      have h2 := congrArg List.length e
      rw [List.flatten_cons, List.length_append] at h2
      simp only [List.flatten_nil, List.length_nil] at h2
      omega
  | f, k :: ks, [], h, _, e => by
      have h1 := (h k (by simp)).pos
      have h2 := congrArg List.length e
      rw [List.flatten_cons, List.length_append] at h2
      simp only [List.flatten_nil, List.length_nil] at h2
      omega
  | f, k :: ks, k' :: ks', h, h', e => by
      have e1 := ends_of_tree f k (h k (by simp)) 0 ks.flatten
      have e2 := ends_of_tree f k' (h' k' (by simp)) 0 ks'.flatten
      rw [List.flatten_cons, List.flatten_cons] at e
      rw [e, e2] at e1
      have z : ∀ r, ends (0 : Nat) r = some 0 := fun r => by cases r <;> simp [ends]
      rw [z, z] at e1
      simp at e1
      obtain ⟨rfl, e3⟩ := List.append_inj e e1.symm
      rw [trees_one ks ks' (fun q hq => h q (by simp [hq])) (fun q hq => h' q (by simp [hq])) e3]
end Go.Proofs.YtjjpmlcaapedhaaDoor
