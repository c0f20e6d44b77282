/- The program: a tree's arguments, written. -/
import Derived.Test.YtjjpmlcaapedhaaDoorQTXSTX5
import Derived.Test.YtjjpmlcaapedhaaDoorQW6W7W18T5
namespace Go.Proofs.YtjjpmlcaapedhaaDoor
open Go.RowKit
set_option linter.unusedVariables false
set_option linter.unusedSimpArgs false

theorem joinB_snoc : ∀ (us : List ByteArray) (u : ByteArray), us ≠ [] → joinB (us ++ [u]) = joinB us ++ cmB ++ u
  | [], u, h => absurd rfl h
  | [a], u, _ => by simp [joinB]
  | a :: b :: r, u, _ => by
      have ih := joinB_snoc (b :: r) u (by simp)
      rw [List.cons_append, List.cons_append]
      simp only [joinB]
      rw [← List.cons_append, ih]
      simp only [ByteArray.append_assoc]
/-- The arguments so far, with the bracket ahead of them. -/
def preB : List ByteArray → ByteArray
  | [] => ByteArray.empty
  | u :: r => lpB ++ joinB (u :: r)
def betB (us : List ByteArray) : ByteArray := match us with
  | [] => lpB
  | _ => cmB
theorem preB_snoc (us : List ByteArray) (u : ByteArray) : preB (us ++ [u]) = preB us ++ betB us ++ u := by
  cases us with
  | nil => simp [preB, betB, joinB]
  | cons a r =>
    have h := joinB_snoc (a :: r) u (by simp)
    show lpB ++ joinB (a :: (r ++ [u])) = lpB ++ joinB (a :: r) ++ cmB ++ u
    rw [← List.cons_append, h]
    simp only [ByteArray.append_assoc]
theorem betB_size (us : List ByteArray) : (betB us).size = 1 := by cases us <;> rfl

theorem join_size : ∀ (ks : List (List C)) (us : List ByteArray), us.length = ks.length → (∀ i (h1 : i < ks.length) (h2 : i < us.length), us[i].size + 1 ≤ 11 * ks[i].length) → (joinB us).size ≤ 11 * ks.flatten.length
  | [], [], _, _ => by simp [joinB]
  | [k], [u], _, h => by
      have := h 0 (by simp) (by simp)
      simp [joinB] at this ⊢
      omega
  | k :: k' :: ks, u :: u' :: us, hl, h => by
      have h0 := h 0 (by simp) (by simp)
      have ih := join_size (k' :: ks) (u' :: us) (by simpa using hl) (fun i h1 h2 => h (i + 1) (Nat.succ_lt_succ h1) (Nat.succ_lt_succ h2))
      simp only [List.getElem_cons_zero] at h0
      rw [List.flatten_cons, List.length_append]
      simp only [joinB]
      rw [ByteArray.size_append, ByteArray.size_append, show cmB.size = 1 from rfl]
      omega
  | [_], [], hl, _ => by simp at hl
  | [], _ :: _, hl, _ => by simp at hl
  | [_], _ :: _ :: _, hl, _ => by simp at hl
  | _ :: _ :: _, [], hl, _ => by simp at hl
  | _ :: _ :: _, [_], hl, _ => by simp at hl
theorem txt_size {t : List C} {u : ByteArray} (h : Txt wordB t u) : (∀ c ∈ t, okC c = true) → u.size + 1 ≤ 11 * t.length := by
  induction h with
  | @leaf c h0 =>
    intro hok
    have := wordB_size (hok c (by simp))
    simp
    omega
  | @node c ks us hne hl hu hk ih =>
    intro hok
    have h1 := wordB_size (hok c (by simp))
    have h2 := join_size ks us hu (fun i a b => ih i a b (fun d hd => hok d (by simp only [List.mem_cons, List.mem_flatten]; exact .inr ⟨ks[i], List.getElem_mem a, hd⟩)))
    rw [ByteArray.size_append, ByteArray.size_append, ByteArray.size_append, show lpB.size = 1 from rfl, show rpB.size = 1 from rfl, List.length_cons]
    omega

def szK (ks : List (Nat × List (Nat × C))) : Nat := (ks.map fun k => k.2.length).sum
theorem szK_flat (ks : List (Nat × List (Nat × C))) : (ks.map (·.2)).flatten.length = szK ks := by simp [szK, List.length_flatten, Function.comp_def]
theorem szK_step {ks : List (Nat × List (Nat × C))} {j : Nat} (h : j < ks.length) : szK (ks.take (j + 1)) = szK (ks.take j) + ks[j].2.length := by
  unfold szK
  rw [List.take_add_one, List.getElem?_eq_getElem h, List.map_append, List.sum_append]
  simp only [Option.toList_some, List.map_cons, List.map_nil, List.sum_cons, List.sum_nil, Nat.add_zero]
theorem szK_le (ks : List (Nat × List (Nat × C))) (j : Nat) : szK (ks.take j) ≤ szK ks := by
  have h : szK ks = szK (ks.take j) + szK (ks.drop j) := by
    unfold szK
    rw [← List.sum_append, ← List.map_append, List.take_append_drop]
  omega

/-- What writing a tree comes to. -/
def Wrote (w0 : World) (b : Nat) (s : ByteArray) (t : List C) (e : Ending) (w' : World) : Prop :=
  ∃ u, (∃ v, e = .returned v) ∧ Txt wordB t u ∧ Bld w' w0.heap.size b (s ++ u) ∧ Below w0.heap.size w0 w'
theorem wrote_mk {w0 w' : World} {b : Nat} {s u : ByteArray} {t : List C} {v : Value} (h1 : Txt wordB t u) (h2 : Bld w' w0.heap.size b (s ++ u)) (h3 : Below w0.heap.size w0 w') : Wrote w0 b s t (.returned v) w' := ⟨u, ⟨v, rfl⟩, h1, h2, h3⟩
/-- What writing the arguments comes to. -/
def WroteA (w0 : World) (b : Nat) (s : ByteArray) (ks : List (Nat × List (Nat × C))) (e : Ending) (w' : World) : Prop :=
  ∃ us, (∃ v, e = .returned v) ∧ us.length = ks.length ∧ (∀ i (h1 : i < ks.length) (h2 : i < us.length), Txt wordB (ks[i].2.map (·.2)) us[i]) ∧ Bld w' w0.heap.size b (s ++ (if ks = [] then ByteArray.empty else preB us ++ rpB)) ∧ Below w0.heap.size w0 w'
theorem wroteA_mk {w0 w' : World} {b : Nat} {s : ByteArray} {ks : List (Nat × List (Nat × C))} {us : List ByteArray} {v : Value} (h0 : us.length = ks.length) (h1 : ∀ i (h1 : i < ks.length) (h2 : i < us.length), Txt wordB (ks[i].2.map (·.2)) us[i])
    (h2 : Bld w' w0.heap.size b (s ++ (if ks = [] then ByteArray.empty else preB us ++ rpB))) (h3 : Below w0.heap.size w0 w') : WroteA w0 b s ks (.returned v) w' := ⟨us, ⟨v, rfl⟩, h0, h1, h2, h3⟩

def KidsW (w0 : World) (b : Nat) (ks : List (Nat × List (Nat × C))) : Prop := ∀ k ∈ ks, ∀ (w : World) (s : ByteArray), Below w0.heap.size w0 w → Bld w w0.heap.size b s → s.size + 11 * k.2.length ≤ 4000000 →
  Calls Tryd.prog 45 #[.pointer (some ⟨k.1, 0, none⟩), .pointer (some ⟨b, 0, none⟩)] w (Wrote w0 b s (k.2.map (·.2)))

theorem cell_b0 {w0 w : World} {a : Addr} {v : Value} (h : Below w0.heap.size w0 w) (hc : w0.cell? a = some v) : w.cell? a = some v := (h.cell (World.block_lt_of_cell? w0 a hc)).trans hc

set_option maxRecDepth 100000 in
set_option maxHeartbeats 2000000 in
theorem writeArgs_none (w0 : World) (b p : Nat) (ao : Option Addr) (cap : Nat) (s : ByteArray) (w : World) (hc : w0.cell? ⟨p, 3, none⟩ = some (.slice ao 0 cap)) (hB : Below w0.heap.size w0 w) (hb : Bld w w0.heap.size b s) :
    Calls Tryd.prog 62 #[.pointer (some ⟨p, 0, none⟩), .pointer (some ⟨b, 0, none⟩)] w (WroteA w0 b s []) := by
  have d := cell_b0 hB hc
  have HF := hide (fun v => wroteA_mk (w0 := w0) (w' := w) (b := b) (s := s) (ks := []) (us := []) (v := v) rfl (fun i h => by simp at h) (by simpa using hb) hB)
  clear hc hB hb
  go_enter Tryd.func62, Tryd.ntmps62
  go_wp2
  exact bodyPost_end (results_none rfl _ _ _) rfl (unhide HF _)

set_option maxRecDepth 100000 in
set_option maxHeartbeats 4000000 in
theorem writeArgs_some (w0 : World) (b p q cap : Nat) (ks : List (Nat × List (Nat × C))) (s : ByteArray) (w : World) (hc : w0.cell? ⟨p, 3, none⟩ = some (.slice (some ⟨q, 0, none⟩) ks.length cap)) (hks : ks ≠ []) (hk3 : ks.length ≤ 3)
    (hr : ∀ i, (h : i < ks.length) → w0.cell? ⟨q, i, none⟩ = some (.pointer (some ⟨ks[i].1, 0, none⟩))) (IH : KidsW w0 b ks) (hok : ∀ k ∈ ks, ∀ x ∈ k.2, okC x.2 = true) (hB : Below w0.heap.size w0 w) (hb : Bld w w0.heap.size b s) (hsz : s.size + 11 * szK ks + 2 ≤ 4000000) :
    Calls Tryd.prog 62 #[.pointer (some ⟨p, 0, none⟩), .pointer (some ⟨b, 0, none⟩)] w (WroteA w0 b s ks) := by
  have d := cell_b0 hB hc
  have hkl : 0 < ks.length := List.length_pos_iff.2 hks
  have HR := hide hr
  have HI := hide IH
  have HOK := hide hok
  have HKS := hide hks
  have hneb : ((ks.length : Int) == 0) = false := by rw [beq_eq_false_iff_ne]; omega
  clear hr IH hok hks hc
  go_enter Tryd.func62, Tryd.ntmps62
  go_wp2
  go_loopw [4, 18] (fun bv iv wr => ∃ (us : List ByteArray), us.length ≤ ks.length ∧ iv = .int .i64 us.length ∧ bv = .string (betB us) ∧ (∀ i (h1 : i < ks.length) (h2 : i < us.length), Txt wordB (ks[i].2.map (·.2)) us[i]) ∧ (preB us).size ≤ 11 * szK (ks.take us.length) ∧ Bld wr w0.heap.size b (s ++ preB us) ∧ Below w0.heap.size w0 wr) (fun _ iv _ => ks.length - (intOf iv).toNat)
  case atStart => exact ⟨[], Nat.zero_le _, rfl, rfl, fun i h1 h2 => by simp at h2, by simp [preB], by simpa [preB] using hb, hB⟩
  case round =>
    obtain ⟨us, hul, rfl, rfl, htx, hps, hbl, hBr⟩ := hrel
    by_cases hlt : us.length < ks.length
    · have hcq := cell_b0 hBr (unhide HR us.length hlt)
      have hks1 := szK_step hlt
      have hks2 := szK_le ks (us.length + 1)
      have hss : (s ++ preB us).size = s.size + (preB us).size := ByteArray.size_append
      have hw0 : w0.heap.size ≤ wr.heap.size := hBr.size
      have HW := hide (WriteString_any w0.heap.size b (s ++ preB us) (betB us) wr hbl hw0 (by rw [betB_size, hss]; omega))
      have hbs : (s ++ preB us ++ betB us).size = s.size + (preB us).size + 1 := by rw [ByteArray.size_append, betB_size, hss]
      have HK := hide (fun (W : World) (hW : Below w0.heap.size w0 W) (h : Bld W w0.heap.size b (s ++ preB us ++ betB us)) => unhide HI ks[us.length] (List.getElem_mem hlt) W _ hW h (by rw [hbs]; omega))
      have HO := hide (show ∀ x ∈ ks[us.length].2, okC x.2 = true from unhide HOK ks[us.length] (List.getElem_mem hlt))
      have HT := hide (And.intro htx (And.intro hps (And.intro hks1 hBr)))
      obtain ⟨kq, hkq⟩ : ∃ kq, kq = ks[us.length].1 := ⟨_, rfl⟩
      rw [← hkq] at hcq HK
      clear hbl hBr htx hps hks1 hks2 hss hbs hkq
      go_wp2_with fail
      refine (unhide HW).mono ?_
      rintro e w1 ⟨rfl, hb1, hB1⟩
      have hB01 := (unhide HT).2.2.2.trans hB1
      have H2 := hide (unhide HK w1 hB01 hb1)
      clear hb1 hB1 HW HK
      go_wp2_with fail
      refine (unhide H2).mono ?_
      intro e w2 hwr
      obtain ⟨u, ⟨v, rfl⟩, htu, hb2, hB2⟩ := hwr
      obtain ⟨htx, hps, hks1, _⟩ := unhide HT
      have hus := txt_size htu (fun c hc => by obtain ⟨x, hx, rfl⟩ := List.mem_map.1 hc; exact unhide HO x hx)
      rw [List.length_map] at hus
      have HF := hide (show (us ++ [u]).length ≤ ks.length ∧ (∀ i (h1 : i < ks.length) (h2 : i < (us ++ [u]).length), Txt wordB (ks[i].2.map (·.2)) (us ++ [u])[i]) ∧ (preB (us ++ [u])).size ≤ 11 * szK (ks.take (us ++ [u]).length) ∧ Bld w2 w0.heap.size b (s ++ preB (us ++ [u])) ∧ Below w0.heap.size w0 w2 from by
        refine ⟨by simp; omega, ?_, ?_, ?_, hB2⟩
        · intro i h1 h2
          by_cases hi : i < us.length
          · rw [List.getElem_append_left hi]; exact htx i h1 hi
          · have : i = us.length := by simp at h2; omega
            subst this
            rw [List.getElem_append_right (Nat.le_refl _)]
            simpa using htu
        · rw [preB_snoc, ByteArray.size_append, ByteArray.size_append, betB_size, show (us ++ [u]).length = us.length + 1 by simp, hks1]
          omega
        · rw [preB_snoc]
          rw [show s ++ (preB us ++ betB us ++ u) = s ++ preB us ++ betB us ++ u by simp only [ByteArray.append_assoc]]
          exact hb2)
      have hbt : betB (us ++ [u]) = cmB := by cases us <;> rfl
      have HBT := hide hbt
      clear htx hps hks1 hus htu hb2 hB2 hbt HT HO H2
      go_wp2
      go_roundw
      case rel => exact ⟨us ++ [u], (unhide HF).1, by simp, by rw [unhide HBT]; rfl, (unhide HF).2.1, (unhide HF).2.2.1, (unhide HF).2.2.2.1, (unhide HF).2.2.2.2⟩
      case measure => simp [intOf]; omega
    · have hue : us.length = ks.length := by omega
      have hks2 := szK_le ks us.length
      have hss : (s ++ preB us).size = s.size + (preB us).size := ByteArray.size_append
      have HW := hide (WriteString_any w0.heap.size b (s ++ preB us) rpB wr hbl hBr.size (by rw [show rpB.size = 1 from rfl, hss]; omega))
      have HT := hide (And.intro htx (And.intro hue hBr))
      clear hbl hBr htx hps hks2 hss
      go_wp2_with fail
      refine (unhide HW).mono ?_
      rintro e w1 ⟨rfl, hb1, hB1⟩
      obtain ⟨htx, hue2, hBr⟩ := unhide HT
      have HF := hide (fun v => wroteA_mk (w0 := w0) (w' := w1) (b := b) (s := s) (ks := ks) (us := us) (v := v) hue2 htx (by rw [if_neg (unhide HKS), ← ByteArray.append_assoc]; exact hb1) (hBr.trans hB1))
      clear hb1 hB1 htx hue2 hBr HT HW
      go_wp2
      exact bodyPost_end (results_none rfl _ _ _) rfl (unhide HF _)
end Go.Proofs.YtjjpmlcaapedhaaDoor
