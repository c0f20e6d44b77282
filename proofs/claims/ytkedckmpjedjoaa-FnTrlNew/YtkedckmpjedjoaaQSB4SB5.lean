import Derived.Test.YtkedckmpjedjoaaQSB3
/- The walks of markSubBindS, heldSubBindS. -/
namespace Go.Proofs.Ytkedckmpjedjoaa
open Go.RowKit
set_option linter.unusedVariables false
set_option linter.unusedSimpArgs false

/-- What markSubBindS writes, from the mark k on. -/
def marksB : List B → Nat → List B
  | [], _ => []
  | x :: s, k => ⟨k, marksC x.t.length (k + 1)⟩ :: marksB s (k + 1 + 3 * x.t.length)
/-- The mark behind all. -/
def endM (s : List B) (k : Nat) : Nat := k + s.length + 3 * tot s

theorem marksB_length : ∀ (s : List B) (k : Nat), (marksB s k).length = s.length
  | [], _ => rfl
  | x :: s, k => by simp [marksB, marksB_length s]
theorem endM_cons (x : B) (s : List B) (k : Nat) : endM (x :: s) k = endM s (k + 1 + 3 * x.t.length) := by simp [endM, tot]; omega
theorem marksB_snoc : ∀ (s : List B) (x : B) (k : Nat), marksB (s ++ [x]) k = marksB s k ++ [⟨(endM s k : Nat), marksC x.t.length (endM s k + 1)⟩]
  | [], x, k => by simp [marksB, endM, tot]
  | y :: s, x, k => by
      rw [List.cons_append]
      simp only [marksB, List.cons_append]
      rw [marksB_snoc s x _, endM_cons]
theorem endM_snoc (s : List B) (x : B) (k : Nat) : endM (s ++ [x]) k = endM s k + 1 + 3 * x.t.length := by simp [endM, tot_append, tot]; omega
theorem marksB_tot : ∀ (s : List B) (k : Nat), tot (marksB s k) = tot s
  | [], _ => rfl
  | x :: s, k => by simp [marksB, tot, marksC_length, marksB_tot s]
theorem marksB_get : ∀ (s : List B) (k i : Nat) (h : i < s.length) (h' : i < (marksB s k).length), (marksB s k)[i] = ⟨(endM (s.take i) k : Nat), marksC s[i].t.length (endM (s.take i) k + 1)⟩
  | x :: s, k, 0, h, h' => by simp [marksB, endM, tot]
  | x :: s, k, i + 1, h, h' => by
      simp only [marksB, List.getElem_cons_succ, List.take_succ_cons]
      rw [marksB_get s _ i (by simpa using h), endM_cons]

theorem rows_apart' {w : World} {b1 e1 s1 n1 b2 e2 s2 n2 : Nat} {v1 v2 : Value} {xs ys : List Value} (h1 : w.ownsRow b1 e1 s1 v1 n1 xs) (h2 : w.ownsRow b2 e2 s2 v2 n2 ys) (he : e1 ≠ e2) : v1 = .slice none 0 0 ∨ v1.ownBlock ≠ v2.ownBlock := by
  rcases h1.2 with ⟨rfl, _⟩ | ⟨g, cap, cur, rfl, _, hgb, _⟩
  · exact .inl rfl
  · refine .inr fun e => ?_
    rcases h2.2 with ⟨rfl, _⟩ | ⟨g', cap', cur', rfl, _, hgb', _⟩
    · simp [Value.ownBlock] at e
    · obtain rfl : g = g' := by simpa [Value.ownBlock] using e
      rw [hgb] at hgb'
      simp at hgb'
      exact he hgb'.2

theorem filterMap_one {us : List Value} (hn : (us.filterMap Value.ownBlock).Nodup) : ∀ {i j : Nat} (hi : i < us.length) (hj : j < us.length), us[i].ownBlock = us[j].ownBlock → us[i].ownBlock ≠ none → i = j := by
  induction us with
  | nil => intro i j hi; simp at hi
  | cons u us ih =>
    intro i j hi hj he hne
    have hn' : (us.filterMap Value.ownBlock).Nodup := by
      rw [List.filterMap_cons] at hn
      cases hu : u.ownBlock with
      | none => rw [hu] at hn; exact hn
      | some k => rw [hu] at hn; exact (List.nodup_cons.1 hn).2
    have hx : ∀ k, u.ownBlock = some k → k ∉ us.filterMap Value.ownBlock := fun k hu => by
      rw [List.filterMap_cons, hu] at hn; exact (List.nodup_cons.1 hn).1
    cases i with
    | zero =>
      cases j with
      | zero => rfl
      | succ j =>
        simp only [List.getElem_cons_zero, List.getElem_cons_succ] at he hne
        cases hu : u.ownBlock with
        | none => exact absurd hu hne
        | some k => exact absurd (List.mem_filterMap.2 ⟨_, List.getElem_mem (by simpa using hj), by rw [← he]; exact hu⟩) (hx k hu)
    | succ i =>
      cases j with
      | zero =>
        simp only [List.getElem_cons_zero, List.getElem_cons_succ] at he hne
        cases hu : u.ownBlock with
        | none => rw [he] at hne; exact absurd hu hne
        | some k => exact absurd (List.mem_filterMap.2 ⟨_, List.getElem_mem (by simpa using hi), by rw [he]; exact hu⟩) (hx k hu)
      | succ j =>
        simp only [List.getElem_cons_succ] at he hne
        rw [ih hn' (by simpa using hi) (by simpa using hj) he hne]

/-- A number of bindings is written. -/
theorem OwnB.set_var {w : World} {lo hi g cap : Nat} {s : List B} (h : OwnB w lo hi (.slice (some ⟨g, 0, none⟩) s.length cap) s) {i : Nat} (hi' : i < s.length) (z : Int) :
    (∃ a, w.cell? ⟨g, i * 2, none⟩ = some a) ∧ w.frozen? ⟨g, i * 2, none⟩ = false ∧ OwnB (w.setCell ⟨g, i * 2, none⟩ (.int .i64 z)) lo hi (.slice (some ⟨g, 0, none⟩) (s.set i ⟨z, s[i].t⟩).length cap) (s.set i ⟨z, s[i].t⟩) ∧ Btw lo hi w (w.setCell ⟨g, i * 2, none⟩ (.int .i64 z)) := by
  obtain ⟨us, h1, h2, h3, h4, h5, h6⟩ := h
  have hl := h2.1
  have hg := (h2.lt g rfl).1
  have hg2 := h6 g rfl
  have s1 := h2.stored (i * 2) (.int .i64 z)
  refine ⟨⟨_, (h2.cellAt (i * 2) (by omega)).trans (List.getElem?_eq_getElem (by omega))⟩, h2.frozenAt _, ⟨us, by simp [h1], ?_, fun j hj hj' => ?_, h4, h5, h6⟩, Btw.of_grown s1.2 (fun k e => by cases e; exact ⟨hg, hg2⟩)⟩
  · rw [← flatB_set_var s us h1 i z hi', List.length_set]
    exact s1.1
  · have ho := h3 j (by simpa using hj) hj'
    have : (s.set i ⟨z, s[i].t⟩)[j].t = (s[j]'(by simpa using hj)).t := by
      rw [List.getElem_set]
      split
      · rename_i e; subst e; rfl
      · rfl
    rw [this]
    refine World.ownsRow.kept ho s1.2 ?_
    rcases rows_apart' ho h2 (by decide) with e | e
    · exact .inl (by rw [e]; rfl)
    · exact .inr e

/-- A term of bindings is written. -/
theorem OwnB.set_term {w w' : World} {lo hi g cap : Nat} {s : List B} {i : Nat} {t : List C} {ao : Option Addr} {cp : Nat} (h : OwnB w lo hi (.slice (some ⟨g, 0, none⟩) s.length cap) s) (hi' : i < s.length) (ht : t.length = s[i].t.length)
    (hc : w.cell? ⟨g, i * 2 + 1, none⟩ = some (.slice ao s[i].t.length cp)) :
    OwnC w lo (.slice ao s[i].t.length cp) s[i].t ∧ ∀ {w' : World}, (OwnC w' lo (.slice ao s[i].t.length cp) t → w.grownBy w' (Value.slice ao s[i].t.length cp).ownBlock →
      OwnB w' lo hi (.slice (some ⟨g, 0, none⟩) (s.set i ⟨s[i].v, t⟩).length cap) (s.set i ⟨s[i].v, t⟩) ∧ Btw lo hi w w') := by
  obtain ⟨us, h1, h2, h3, h4, h5, h6⟩ := h
  have hl := h2.1
  have hiu : i < us.length := by omega
  have f := flatB_get s us h1 i hi' hiu
  have hu : us[i] = .slice ao s[i].t.length cp := by
    have := h2.cellAt (i * 2 + 1) (by omega)
    rw [this, f.2] at hc
    simpa using hc
  have hoi := h3 i hi' hiu
  rw [hu] at hoi
  refine ⟨hoi, fun {w'} ho hg => ?_⟩
  have hb5 := h5 us[i] (List.getElem_mem hiu)
  rw [hu] at hb5
  have hlo : ∀ k, (Value.slice ao s[i].t.length cp).ownBlock = some k → lo ≤ k := fun k e => (hoi.lt k e).1
  refine ⟨⟨us, by simp [h1], ?_, fun j hj hj' => ?_, h4, h5, h6⟩, Btw.of_grown hg (fun k e => ⟨hlo k e, hb5 k e⟩)⟩
  · rw [flatB_set_term, List.length_set]
    refine World.ownsRow.kept h2 hg ?_
    rcases rows_apart' h2 hoi (by decide) with e | e
    · cases e
    · exact .inr e
  · by_cases e : j = i
    · subst e
      rw [List.getElem_set_self, hu]
      exact ho
    · have hjs : j < s.length := by simpa using hj
      rw [List.getElem_set_ne (fun h => e h.symm)]
      refine World.ownsRow.kept (h3 j hjs hj') hg ?_
      cases hub : us[j].ownBlock with
      | none => exact .inl rfl
      | some k =>
        refine .inr fun e' => e ?_
        rw [← hu] at e'
        exact filterMap_one h4 hj' hiu (hub.trans e') (by rw [hub]; simp)
end Go.Proofs.Ytkedckmpjedjoaa

/- The walks of markSubBindS, heldSubBindS. -/
namespace Go.Proofs.Ytkedckmpjedjoaa
open Go.RowKit
set_option linter.unusedVariables false
set_option linter.unusedSimpArgs false

/-- Bindings of which the first j are marked. -/
def midM (s : List B) (j k : Nat) : List B := marksB (s.take j) k ++ s.drop j
theorem midM_length (s : List B) {j : Nat} (k : Nat) (h : j ≤ s.length) : (midM s j k).length = s.length := by simp [midM, marksB_length]; omega
theorem midM_get {s : List B} {j : Nat} (k : Nat) (h : j < s.length) : (midM s j k)[j]'(by rw [midM_length s k (by omega)]; exact h) = s[j] := by
  unfold midM
  rw [List.getElem_append_right (by simp [marksB_length]; omega)]
  simp [marksB_length, Nat.min_eq_left (Nat.le_of_lt h)]
theorem midM_step {s : List B} {j : Nat} (k : Nat) (h : j < s.length) : (midM s j k).set j ⟨(endM (s.take j) k : Nat), marksC s[j].t.length (endM (s.take j) k + 1)⟩ = midM s (j + 1) k := by
  unfold midM
  have hl : (marksB (s.take j) k).length = j := by rw [marksB_length]; simp; omega
  rw [List.set_append_right _ _ (by omega), hl, Nat.sub_self, List.drop_eq_getElem_cons h, List.set_cons_zero, List.take_succ_eq_append_getElem h, marksB_snoc, List.append_assoc]
  rfl

/-- What is known at a round's beginning. -/
theorem markB_begin {w wr : World} {lo hi g cap k j : Nat} {s : List B} (hj : j < s.length) (h : OwnB wr lo hi (.slice (some ⟨g, 0, none⟩) s.length cap) (midM s j k)) (hB : Btw lo hi w wr) :
    (∃ a, wr.cell? ⟨g, j * 2, none⟩ = some a) ∧ wr.frozen? ⟨g, j * 2, none⟩ = false ∧ ∃ ao cp, (wr.setCell ⟨g, j * 2, none⟩ (.int .i64 (endM (s.take j) k : Nat))).cell? ⟨g, j * 2 + 1, none⟩ = some (.slice ao s[j].t.length cp) ∧
      OwnC (wr.setCell ⟨g, j * 2, none⟩ (.int .i64 (endM (s.take j) k : Nat))) lo (.slice ao s[j].t.length cp) s[j].t ∧
      ∀ (w2 : World), OwnC w2 lo (.slice ao s[j].t.length cp) (marksC s[j].t.length (endM (s.take j) k + 1)) → (wr.setCell ⟨g, j * 2, none⟩ (.int .i64 (endM (s.take j) k : Nat))).grownBy w2 (Value.slice ao s[j].t.length cp).ownBlock →
        OwnB w2 lo hi (.slice (some ⟨g, 0, none⟩) s.length cap) (midM s (j + 1) k) ∧ Btw lo hi w w2 := by
  have hlen := midM_length s k (Nat.le_of_lt hj)
  have hjm : j < (midM s j k).length := by rw [hlen]; exact hj
  rw [← hlen] at h
  obtain ⟨q1, q2, q3, q4⟩ := h.set_var hjm (endM (s.take j) k : Nat)
  refine ⟨q1, q2, ?_⟩
  have hjs : j < ((midM s j k).set j ⟨(endM (s.take j) k : Nat), (midM s j k)[j].t⟩).length := by simpa using hjm
  obtain ⟨ao', cap', e, _, _, hR⟩ := q3.shape
  simp only [Value.slice.injEq] at e
  obtain ⟨rfl, _, rfl⟩ := e
  rcases hR with hR | ⟨b, off, e, hAt⟩
  · rw [hR] at hjs; simp at hjs
  simp only [Option.some.injEq, Addr.mk.injEq] at e
  obtain ⟨rfl, rfl, _⟩ := e
  obtain ⟨_, ao, cp, c1, _⟩ := hAt j hjs
  have et : (((midM s j k).set j ⟨(endM (s.take j) k : Nat), (midM s j k)[j].t⟩)[j]'hjs).t = s[j].t := by rw [List.getElem_set_self]; simp only [midM_get k hj]
  have ev : (((midM s j k).set j ⟨(endM (s.take j) k : Nat), (midM s j k)[j].t⟩)[j]'hjs).v = (endM (s.take j) k : Nat) := by rw [List.getElem_set_self]
  obtain ⟨r1, r2⟩ := q3.set_term (t := marksC s[j].t.length (endM (s.take j) k + 1)) (w' := wr) hjs (by rw [marksC_length, et]) (by simpa using c1)
  rw [et] at r1 r2 c1
  refine ⟨ao, cp, by simpa using c1, r1, fun w2 h1 h2 => ?_⟩
  obtain ⟨z1, z2⟩ := r2 h1 h2
  refine ⟨?_, hB.trans (q4.trans z2)⟩
  rw [ev, List.set_set, midM_step k hj, midM_length s k (by omega)] at z1
  exact z1

set_option maxRecDepth 100000 in
set_option maxHeartbeats 1000000 in
theorem markSubBindS_some (g cap lo hi : Nat) (s : List B) (k : Nat) (w : World) (hm : s.length + tot s ≤ 1048576) (hk1 : 1 ≤ k) (hk : k ≤ 16) (hA : OwnB w lo hi (.slice (some ⟨g, 0, none⟩) s.length cap) s) :
    Calls Try.prog 68 #[.slice (some ⟨g, 0, none⟩) s.length cap, .int .i64 k] w fun e w' => e = .returned (.int .i64 ((endM s k : Nat) : Int)) ∧
      OwnB w' lo hi (.slice (some ⟨g, 0, none⟩) s.length cap) (marksB s k) ∧ Btw lo hi w w' := by
  go_enter Try.func68, Try.ntmps68
  go_wp2
  go_loopw [1, 5] (fun m i wr => ∃ (j e : Nat), j ≤ s.length ∧ i = .int .i64 j ∧ m = .int .i64 (e : Int) ∧ e = endM (s.take j) k ∧ OwnB wr lo hi (.slice (some ⟨g, 0, none⟩) s.length cap) (midM s j k) ∧ Btw lo hi w wr) (fun _ i _ => s.length - (intOf i).toNat)
  case atStart => exact ⟨0, k, Nat.zero_le _, rfl, rfl, by simp [endM, tot], by simpa [midM, marksB] using hA, Btw.refl _ _ _⟩
  case round =>
    obtain ⟨j, e, hj, rfl, rfl, he, hown, hB⟩ := hrel
    have hel : e ≤ 4194303 := by
      rw [he]; unfold endM
      have h1 := tot_take_le s j
      have h2 : (s.take j).length ≤ s.length := by simp; omega
      omega
    have he1 : 1 ≤ e := by rw [he]; unfold endM; omega
    by_cases hlt : j < s.length
    · obtain ⟨⟨u, d0⟩, f0, ao, cp, d1, ho, R⟩ := markB_begin hlt hown hB
      have hml : s[j].t.length ≤ 1048576 := by have := tot_mem (List.getElem_mem hlt); omega
      have HE : Hid (endM (s.take (j + 1)) k = e + 1 + 3 * s[j].t.length) := by show endM (s.take (j + 1)) k = _; rw [List.take_succ_eq_append_getElem hlt, endM_snoc, he]
      rw [← he] at d1 ho R
      have HOUT := hide he
      have HR := hide R
      have HO := hide ho
      clear R ho hown he
      obtain ⟨n, hn⟩ : ∃ n, n = s[j].t.length := ⟨_, rfl⟩
      obtain ⟨t, ht⟩ : ∃ t, t = s[j].t := ⟨_, rfl⟩
      rw [← ht] at HO HR HE d1 hml
      clear hn ht
      go_wp2_with fail
      refine (markTrmCellS_any ao cp t (e + 1) lo _ hml (by omega) (by omega) (unhide HO)).mono ?_
      rintro e' w2 ⟨rfl, h1, h2⟩
      obtain ⟨z1, z2⟩ := unhide HR _ h1 h2
      have HZ := hide z1
      clear z1 h1 h2 d0 d1 f0 HR HO
      go_wp2
      go_roundw
      case rel => exact ⟨j + 1, e + 1 + 3 * t.length, by omega, by go_num, by go_num, (unhide HE).symm, unhide HZ, z2⟩
      case measure => simp [intOf]; omega
    · have ej : j = s.length := by omega
      subst ej
      rw [List.take_length] at he
      go_wp2
      go_ret
      refine ⟨ret_int (by rw [he]), ?_, hB⟩
      simpa [midM] using hown

set_option maxRecDepth 100000 in
set_option maxHeartbeats 400000 in
theorem markSubBindS_none (ao : Option Addr) (cap : Nat) (k : Int) (w : World) :
    Calls Try.prog 68 #[.slice ao 0 cap, .int .i64 k] w fun e w' => e = .returned (.int .i64 k) ∧ w' = w := by
  go_enter Try.func68, Try.ntmps68
  go_wp2
  refine wp_loop_rounds 1 ?_
  rw [rounds_succ]
  go_wp2
  go_ret
  exact ⟨rfl, rfl⟩

theorem markSubBindS_any (ao : Option Addr) (cap lo hi : Nat) (s : List B) (k : Nat) (w : World) (hm : s.length + tot s ≤ 1048576) (hk1 : 1 ≤ k) (hk : k ≤ 16) (hA : OwnB w lo hi (.slice ao s.length cap) s) :
    Calls Try.prog 68 #[.slice ao s.length cap, .int .i64 k] w fun e w' => e = .returned (.int .i64 ((endM s k : Nat) : Int)) ∧
      OwnB w' lo hi (.slice ao s.length cap) (marksB s k) ∧ Btw lo hi w w' := by
  by_cases h0 : s.length = 0
  · have hz : s = [] := List.length_eq_zero_iff.1 h0
    subst hz
    refine (markSubBindS_none ao cap k w).mono ?_
    rintro e w' ⟨rfl, rfl⟩
    exact ⟨ret_int (by simp [endM, tot]), hA, Btw.refl _ _ _⟩
  · have hA' := hA
    obtain ⟨us, _, h2, _⟩ := hA
    rcases h2.2 with ⟨e, hn⟩ | ⟨g, cap', cur, e, _⟩
    · exact absurd hn h0
    · simp only [Value.slice.injEq] at e
      obtain ⟨rfl, _, rfl⟩ := e
      exact markSubBindS_some g cap lo hi s k w hm hk1 hk hA'

theorem markSubBindS_one (ao : Option Addr) (cap lo hi : Nat) (s : List B) (w : World) (hm : s.length + tot s ≤ 1048576) (hA : OwnB w lo hi (.slice ao s.length cap) s) :
    Calls Try.prog 68 #[.slice ao s.length cap, .int .i64 1] w fun e w' => e = .returned (.int .i64 ((endM s 1 : Nat) : Int)) ∧
      OwnB w' lo hi (.slice ao s.length cap) (marksB s 1) ∧ Btw lo hi w w' := markSubBindS_any ao cap lo hi s 1 w hm (by omega) (by omega) hA

set_option maxRecDepth 100000 in
set_option maxHeartbeats 1000000 in
theorem heldSubBindS_some (b off cap : Nat) (s : List B) (k : Nat) (w : World) (hm : s.length + tot s ≤ 1048576) (hk1 : 1 ≤ k) (hk : k ≤ 16) (hA : AtB w b off (marksB s k)) :
    Calls Try.prog 71 #[.slice (some ⟨b, off, none⟩) s.length cap, .int .i64 k] w fun e w' => e = .returned (.int .i64 ((endM s k : Nat) : Int)) ∧ Below w.heap.size w w' := by
  go_enter Try.func71, Try.ntmps71
  go_wp2
  go_loopw [1, 5] (fun m i wr => ∃ (j e : Nat), j ≤ s.length ∧ i = .int .i64 j ∧ m = .int .i64 (e : Int) ∧ e = endM (s.take j) k ∧ Below w.heap.size w wr) (fun _ i _ => s.length - (intOf i).toNat)
  case atStart => exact ⟨0, k, Nat.zero_le _, rfl, rfl, by simp [endM, tot], Below.refl _ _⟩
  case round =>
    obtain ⟨j, e, hj, rfl, rfl, he, hB⟩ := hrel
    have hel : e ≤ 4194303 := by
      rw [he]; unfold endM
      have h1 := tot_take_le s j
      have h2 : (s.take j).length ≤ s.length := by simp; omega
      omega
    have he1 : 1 ≤ e := by rw [he]; unfold endM; omega
    by_cases hlt : j < s.length
    · obtain ⟨d0, ao, cp, d1, _, _, hR⟩ := (hA.below hB) j (by rw [marksB_length]; exact hlt)
      rw [marksB_get s k j hlt] at d0 d1 hR
      simp only [marksC_length] at d0 d1 hR
      have hml : s[j].t.length ≤ 1048576 := by have := tot_mem (List.getElem_mem hlt); omega
      have HE : Hid (endM (s.take (j + 1)) k = e + 1 + 3 * s[j].t.length) := by show endM (s.take (j + 1)) k = _; rw [List.take_succ_eq_append_getElem hlt, endM_snoc, he]
      rw [← he] at d0 hR
      have HOUT := hide he
      have HR := hide hR
      clear he hR
      obtain ⟨n, hn⟩ : ∃ n, n = s[j].t.length := ⟨_, rfl⟩
      rw [← hn] at HR HE d1 hml
      clear hn
      have hbl : b < wr.heap.size := World.block_lt_of_cell? wr ⟨b, _, none⟩ d0
      have hne : ((e : Int) != (e : Int)) = false := by simp
      go_wp2_with fail
      refine (heldTrmCellS_any ao cp n (e + 1) _ hml (by omega) (by omega) (unhide HR)).mono ?_
      rintro e' w2 ⟨rfl, hb2⟩
      clear d0 d1 HR
      have hnn : ¬ (((e + 1 + 3 * n : Nat) : Int) < 0) := by omega
      go_wp2
      go_roundw
      case rel => exact ⟨j + 1, e + 1 + 3 * n, by omega, by go_num, by go_num, (unhide HE).symm, bstep hB hb2⟩
      case measure => simp [intOf]; omega
    · have ej : j = s.length := by omega
      subst ej
      rw [List.take_length] at he
      go_wp2
      go_ret
      exact ⟨ret_int (by rw [he]), hB⟩

set_option maxRecDepth 100000 in
set_option maxHeartbeats 400000 in
theorem heldSubBindS_none (ao : Option Addr) (cap : Nat) (k : Int) (w : World) :
    Calls Try.prog 71 #[.slice ao 0 cap, .int .i64 k] w fun e w' => e = .returned (.int .i64 k) ∧ w' = w := by
  go_enter Try.func71, Try.ntmps71
  go_wp2
  refine wp_loop_rounds 1 ?_
  rw [rounds_succ]
  go_wp2
  go_ret
  exact ⟨rfl, rfl⟩

theorem heldSubBindS_one (ao : Option Addr) (cap : Nat) (s : List B) (w : World) (hm : s.length + tot s ≤ 1048576) (hA : RowB w ao (marksB s 1)) :
    Calls Try.prog 71 #[.slice ao s.length cap, .int .i64 1] w fun e w' => e = .returned (.int .i64 ((endM s 1 : Nat) : Int)) ∧ Below w.heap.size w w' := by
  rcases hA with h | ⟨b, off, rfl, hA⟩
  · have hz : s = [] := by cases s with | nil => rfl | cons x s => simp [marksB] at h
    subst hz
    refine (heldSubBindS_none ao cap 1 w).mono ?_
    rintro e w' ⟨rfl, rfl⟩
    exact ⟨ret_int (by simp [endM, tot]), Below.refl _ _⟩
  · exact heldSubBindS_some b off cap s 1 w hm (by omega) (by omega) hA
end Go.Proofs.Ytkedckmpjedjoaa
