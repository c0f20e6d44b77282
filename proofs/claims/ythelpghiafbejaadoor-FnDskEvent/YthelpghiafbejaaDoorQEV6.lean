/- The program's reader of numbers: two closures over the words that are left and whether all were numbers. -/
import Derived.Test.YthelpghiafbejaaDoorQEV5
import Derived.Test.YthelpghiafbejaaDoorQEV4TX2
import Derived.Test.YthelpghiafbejaaDoorQEV3
import Derived.Test.YthelpghiafbejaaDoorQRR7
namespace Go.Proofs.YthelpghiafbejaaDoor
open Go.RowKit
set_option linter.unusedVariables false
set_option linter.unusedSimpArgs false

/-- The words that are left lie at P, from the place o on of the block g; whether one was none lies at Q. -/
structure NumS (w0 W : World) (P Q g : Nat) (n o cap : Nat) (ws : List (List UInt8)) (bad : Bool) : Prop where
  hp : W.heap[P]? = some (.cells #[.slice (some ⟨g, o, none⟩) n cap] 32 (0, 0))
  hq : W.heap[Q]? = some (.cells #[.bool bad] 4 (0, 0))
  ha : AtW W g o ws
  hn : n = ws.length
  hc : n ≤ cap
  hb : Below w0.heap.size w0 W
  pl : w0.heap.size ≤ P
  ql : w0.heap.size ≤ Q
  pq : P ≠ Q
  gp : g ≠ P
  gq : g ≠ Q
theorem NumS.c0 {w0 W : World} {P Q g n o cap : Nat} {ws : List (List UInt8)} {bad : Bool} (h : NumS w0 W P Q g n o cap ws bad) : W.cell? ⟨P, 0, none⟩ = some (.slice (some ⟨g, o, none⟩) n cap) ∧ W.frozen? ⟨P, 0, none⟩ = false := by
  simp [World.cell?, World.frozen?, h.hp]
theorem NumS.c1 {w0 W : World} {P Q g n o cap : Nat} {ws : List (List UInt8)} {bad : Bool} (h : NumS w0 W P Q g n o cap ws bad) : W.cell? ⟨Q, 0, none⟩ = some (.bool bad) ∧ W.frozen? ⟨Q, 0, none⟩ = false := by
  simp [World.cell?, World.frozen?, h.hq]
theorem NumS.below {w0 W W' : World} {P Q g n o cap : Nat} {ws : List (List UInt8)} {bad : Bool} (h : NumS w0 W P Q g n o cap ws bad) (hb : Below W.heap.size W W') : NumS w0 W' P Q g n o cap ws bad :=
  ⟨(hb.block P (Array.getElem?_eq_some_iff.1 h.hp).1).trans h.hp, (hb.block Q (Array.getElem?_eq_some_iff.1 h.hq).1).trans h.hq, h.ha.below hb, h.hn, h.hc, bstep h.hb hb, h.pl, h.ql, h.pq, h.gp, h.gq⟩
theorem AtW.set {W : World} {g o E i : Nat} {ws : List (List UInt8)} (h : AtW W g o ws) (v : Value) (hg : g ≠ E) : AtW (W.setCell ⟨E, i, none⟩ v) g o ws := fun j hj =>
  (World.cell?_of_block (a := ⟨g, o + j, none⟩) (set_other W v hg)).trans (h j hj)
theorem NumS.turn {w0 W : World} {P Q g n o cap : Nat} {ws : List (List UInt8)} {bad : Bool} (h : NumS w0 W P Q g n o cap ws bad) (b : Bool) : NumS w0 (W.setCell ⟨Q, 0, none⟩ (.bool b)) P Q g n o cap ws b :=
  ⟨(set_other W _ h.pq).trans h.hp, set_blk h.hq _, h.ha.set _ h.gq, h.hn, h.hc, h.hb.setCell (p := ⟨Q, 0, none⟩) h.ql _, h.pl, h.ql, h.pq, h.gp, h.gq⟩
/-- The first word is taken off. -/
theorem NumS.pop {w0 W : World} {P Q g n o cap : Nat} {x : List UInt8} {ws : List (List UInt8)} {bad : Bool} (h : NumS w0 W P Q g n o cap (x :: ws) bad) : NumS w0 (W.setCell ⟨P, 0, none⟩ (.slice (some ⟨g, o + 1, none⟩) (n - 1) (cap - 1))) P Q g (n - 1) (o + 1) (cap - 1) ws bad :=
  ⟨set_blk h.hp _, (set_other W _ (Ne.symm h.pq)).trans h.hq, fun j hj => by
    have := (h.ha.set (E := P) (i := 0) (.slice (some ⟨g, o + 1, none⟩) (n - 1) (cap - 1)) h.gp) (j + 1) (by simp; omega)
    simp only [List.getElem_cons_succ] at this
    rw [← this, Nat.add_assoc, Nat.add_comm 1 j], by have := h.hn; simp at this; omega, by have := h.hc; omega, h.hb.setCell (p := ⟨P, 0, none⟩) h.pl _, h.pl, h.ql, h.pq, h.gp, h.gq⟩

set_option maxRecDepth 100000 in
set_option maxHeartbeats 1000000 in
theorem done_any (w0 W : World) (P Q g n o cap : Nat) (ws : List (List UInt8)) (bad : Bool) (h : NumS w0 W P Q g n o cap ws bad) :
    Calls Tryd.prog 29 #[.pointer (some ⟨Q, 0, none⟩), .pointer (some ⟨P, 0, none⟩)] W fun e w' => e = .returned (.bool (!bad && decide (ws = []))) ∧ w' = W := by
  obtain ⟨p0, p1⟩ := h.c0
  obtain ⟨q0, q1⟩ := h.c1
  have hn := h.hn
  clear h
  go_enter Tryd.func29, Tryd.ntmps29
  cases bad with
  | true =>
    go_wp2
    go_ret
    exact ⟨rfl, rfl⟩
  | false =>
    by_cases hw : ws = []
    · have h0 : n = 0 := by rw [hn, hw]; rfl
      subst h0
      have HD := hide (show (!false && decide (ws = [])) = true from by simp [hw])
      clear hn hw
      go_wp2
      go_ret
      exact ⟨by rw [unhide HD]; rfl, rfl⟩
    · have h0 : n ≠ 0 := by rw [hn]; exact fun e => hw (List.length_eq_zero_iff.1 e)
      have h0b : ((n : Int) == 0) = false := beq_eq_false_iff_ne.2 (by omega)
      have HD := hide (show (!false && decide (ws = [])) = false from by simp [hw])
      clear hn hw
      go_wp2
      go_ret
      exact ⟨by rw [unhide HD]; rfl, rfl⟩
theorem errT_of {W : World} (h : ErrG W) : ErrT W W.heap.size := by
  obtain ⟨⟨e1, c1, h1⟩, ⟨e2, c2, h2⟩⟩ := h
  exact ⟨⟨e1, c1, h1⟩, ⟨e2, c2, h2⟩, Nat.ne_of_lt (World.block_lt_of_cell? W ⟨_, _, none⟩ c1), Nat.ne_of_lt (World.block_lt_of_cell? W ⟨_, _, none⟩ c2)⟩

/-- One number was read. -/
def Kp (W w' : World) (P Q : Nat) : Prop := W.heap.size ≤ w'.heap.size ∧ ∀ b, b < W.heap.size → b ≠ P → b ≠ Q → w'.heap[b]? = W.heap[b]?
theorem Kp.refl (W : World) (P Q : Nat) : Kp W W P Q := ⟨Nat.le_refl _, fun _ _ _ _ => rfl⟩
theorem Kp.trans {a b c : World} {P Q : Nat} (h : Kp a b P Q) (k : Kp b c P Q) : Kp a c P Q :=
  ⟨Nat.le_trans h.1 k.1, fun j hj hp hq => (k.2 j (Nat.lt_of_lt_of_le hj h.1) hp hq).trans (h.2 j hj hp hq)⟩
theorem Kp.of_below {a b : World} {P Q : Nat} (h : Below a.heap.size a b) : Kp a b P Q := ⟨h.size, fun j hj _ _ => h.block j hj⟩
theorem Kp.setP (W : World) (P Q : Nat) (v : Value) : Kp W (W.setCell ⟨P, 0, none⟩ v) P Q := ⟨by simp, fun j _ hp _ => set_other W v hp⟩
theorem Kp.setQ (W : World) (P Q : Nat) (v : Value) : Kp W (W.setCell ⟨Q, 0, none⟩ v) P Q := ⟨by simp, fun j _ _ hq => set_other W v hq⟩
def NextOut (w0 W0 : World) (P Q g cap : Nat) (x : List UInt8) (r : List (List UInt8)) (bad : Bool) (e : Ending) (w' : World) : Prop :=
  ∃ (v : Int) (o' : Nat), e = .returned (.int .i64 v) ∧ NumS w0 w' P Q g r.length o' (cap - 1) r (bad || (numW x).isNone) ∧ (∀ y, numW x = some y → v = y) ∧ Kp W0 w' P Q
theorem next_bad {w0 W0 W : World} {P Q g cap o : Nat} {x : List UInt8} {r : List (List UInt8)} {bad : Bool} (h : NumS w0 W P Q g r.length o (cap - 1) r bad) (hk : Kp W0 W P Q) (v : Int) (hx : numW x = none) : NextOut w0 W0 P Q g cap x r bad (.returned (.int .i64 v)) (W.setCell ⟨Q, 0, none⟩ (.bool true)) :=
  ⟨v, o, rfl, by rw [hx]; have := h.turn true; simpa using this, fun y hy => (by rw [hx] at hy; cases hy), hk.trans (Kp.setQ W P Q _)⟩
theorem next_good {w0 W0 W : World} {P Q g cap o : Nat} {x : List UInt8} {r : List (List UInt8)} {bad : Bool} (h : NumS w0 W P Q g r.length o (cap - 1) r bad) (hk : Kp W0 W P Q) (v : Int) (hx : numW x = some v) : NextOut w0 W0 P Q g cap x r bad (.returned (.int .i64 v)) W :=
  ⟨v, o, rfl, by rw [hx]; simpa using h, fun y hy => (by rw [hx] at hy; exact Option.some.inj hy), hk⟩

set_option maxRecDepth 100000 in
set_option maxHeartbeats 1000000 in
theorem next_none (w0 W : World) (P Q g n o cap : Nat) (bad : Bool) (h : NumS w0 W P Q g n o cap [] bad) :
    Calls Tryd.prog 26 #[.pointer (some ⟨P, 0, none⟩), .pointer (some ⟨Q, 0, none⟩)] W fun e w' => e = .returned (.int .i64 0) ∧ NumS w0 w' P Q g n o cap [] true ∧ Kp W w' P Q := by
  obtain ⟨p0, p1⟩ := h.c0
  obtain ⟨q0, q1⟩ := h.c1
  have hn : n = 0 := h.hn
  have FIN := hide (And.intro (h.turn true) (Kp.setQ W P Q (.bool true)))
  clear h
  subst hn
  go_enter Tryd.func26, Tryd.ntmps26
  go_wp2
  go_ret
  exact ⟨rfl, unhide FIN⟩

set_option maxRecDepth 100000 in
set_option maxHeartbeats 4000000 in
theorem next_some (w0 W : World) (P Q g o cap : Nat) (x : List UInt8) (r : List (List UInt8)) (bad : Bool) (h : NumS w0 W P Q g (r.length + 1) o cap (x :: r) bad) (hx : x.length ≤ 1000) (hn1 : r.length ≤ 1000) (hT : TenT w0) (hE : ErrG w0) :
    Calls Tryd.prog 26 #[.pointer (some ⟨P, 0, none⟩), .pointer (some ⟨Q, 0, none⟩)] W (NextOut w0 W P Q g cap x r bad) := by
  have hs := mkS_size x
  obtain ⟨p0, p1⟩ := h.c0
  have hcap := h.hc
  have hc := h.ha 0 (by simp)
  rw [Nat.add_zero] at hc
  simp only [List.getElem_cons_zero] at hc
  have HH := hide h
  have hgP := h.gp
  have hTW := hide (fun (V : World) (hV : Below w0.heap.size w0 V) => hT.below hV)
  have hEW := hide (fun (V : World) (hV : Below w0.heap.size w0 V) => errT_of (hE.below hV))
  have n1 : (1 : Int) ≤ (r.length : Int) + 1 := by omega
  have n2 : (r.length : Int) + 1 ≤ (cap : Int) := by omega
  have n3 : (0 : Int) < (r.length : Int) + 1 := by omega
  have n0b : (((r.length : Int) + 1) == 0) = false := beq_eq_false_iff_ne.2 (by omega)
  clear h hT hE
  go_enter Tryd.func26, Tryd.ntmps26
  by_cases hc1 : cap = 1
  · have hr0 : r = [] := List.length_eq_zero_iff.1 (by omega)
    subst hc1
    subst hr0
    simp only [List.length_nil, Nat.zero_add] at *
    have HP := hide (show NumS w0 (W.setCell ⟨P, 0, none⟩ (.slice (some ⟨g, o, none⟩) 0 0)) P Q g ([] : List (List UInt8)).length o (1 - 1) [] bad from by
      have q := (unhide HH)
      exact ⟨set_blk q.hp _, (set_other W _ (Ne.symm q.pq)).trans q.hq, fun j hj => absurd hj (Nat.not_lt_zero _), rfl, Nat.le_refl _, q.hb.setCell (p := ⟨P, 0, none⟩) q.pl _, q.pl, q.ql, q.pq, q.gp, q.gq⟩)
    have hc2 : (W.setCell ⟨P, 0, none⟩ (.slice (some ⟨g, o, none⟩) 0 0)).cell? ⟨g, o, none⟩ = some (.string (mkS x)) := (World.cell?_of_block (a := ⟨g, o, none⟩) (set_other W _ hgP)).trans hc
    clear HH
    have KP := hide (Kp.setP W P Q (.slice (some ⟨g, o, none⟩) 0 0))
    go_wp2_with fail
    generalize W.setCell ⟨P, 0, none⟩ (.slice (some ⟨g, o, none⟩) 0 0) = W1 at *
    have hB1 := (unhide HP).hb
    by_cases hok : ∃ v, Go.Lib.atoiAll x = .ok v
    · obtain ⟨v, hv⟩ := hok
      have hvb := Go.Lib.atoiAll_bounds hv
      have HA := hide (Atoi_ok x (by omega) v hv W1)
      have HNW := hide (show numW x = if v < 0 ∨ 5 < x.length ∨ Go.Lib.itoa v ≠ x then none else some v from by unfold numW; rw [hv])
      clear hv
      refine (unhide HA).mono ?_
      rintro e W2 ⟨rfl, hb2⟩
      have HP2 := hide ((unhide HP).below hb2)
      have KP2 := hide ((unhide KP).trans (Kp.of_below hb2))
      clear HA HP hb2 KP
      have hq := (unhide HP2).c1
      obtain ⟨q0, q1⟩ := hq
      by_cases hv0 : v < 0
      · have HX := hide (show numW x = none from by rw [unhide HNW, if_pos (.inl hv0)])
        have FIN := hide (next_bad (unhide HP2) (unhide KP2) v (unhide HX))
        clear HP2 HNW HX
        go_wp2
        go_ret
        exact unhide FIN
      by_cases h5 : 5 < x.length
      · have HX := hide (show numW x = none from by rw [unhide HNW, if_pos (.inr (.inl h5))])
        have FIN := hide (next_bad (unhide HP2) (unhide KP2) v (unhide HX))
        clear HP2 HNW HX
        go_wp2
        go_ret
        exact unhide FIN
      have HI := hide (Itoa_all v W2 hvb.1 hvb.2 (unhide hTW W2 (unhide HP2).hb))
      go_wp2_with fail
      refine (unhide HI).mono ?_
      rintro e W3 ⟨rfl, hb3⟩
      have HP3 := hide ((unhide HP2).below hb3)
      have KP3 := hide ((unhide KP2).trans (Kp.of_below hb3))
      clear HP2 HI hb3 q0 q1 KP2
      have hq := (unhide HP3).c1
      obtain ⟨q0, q1⟩ := hq
      have hnb : numB v = mkS (Go.Lib.itoa v) := rfl
      rw [hnb]
      clear hnb
      by_cases hi : Go.Lib.itoa v = x
      · have HX := hide (show numW x = some v from by rw [unhide HNW, if_neg]; rintro (h | h | h) <;> first | omega | exact h hi)
        have FIN := hide (next_good (unhide HP3) (unhide KP3) v (unhide HX))
        have heq : ((mkS x).toList == (mkS x).toList) = true := by simp
        rw [hi]
        clear HP3 HNW HX hi
        go_wp2
        go_ret
        exact unhide FIN
      · have HX := hide (show numW x = none from by rw [unhide HNW, if_pos (.inr (.inr hi))])
        have FIN := hide (next_bad (unhide HP3) (unhide KP3) v (unhide HX))
        have heq := text_ne hi
        clear HP3 HNW HX hi
        generalize mkS (Go.Lib.itoa v) = u at heq ⊢
        go_wp2
        go_ret
        exact unhide FIN
    · have HA := hide (Atoi_no x (by omega) (fun v hv => hok ⟨v, hv⟩) W1 (unhide hEW W1 hB1))
      have HX := hide (show numW x = none from by
        unfold numW
        split
        · rename_i v hv; exact absurd ⟨v, hv⟩ hok
        · rfl)
      clear hok
      refine (unhide HA).mono ?_
      rintro e W2 ⟨m, t, q, rfl, hb2⟩
      have HP2 := hide ((unhide HP).below hb2)
      have KP2 := hide ((unhide KP).trans (Kp.of_below hb2))
      clear HA HP hb2 KP
      have hq := (unhide HP2).c1
      obtain ⟨q0, q1⟩ := hq
      have FIN := hide (next_bad (unhide HP2) (unhide KP2) m (unhide HX))
      clear HP2 HX
      go_wp2
      go_ret
      exact unhide FIN
  · have hc1b : ¬ (cap - 1 = 0) := by omega
    have HP := hide (show NumS w0 (W.setCell ⟨P, 0, none⟩ (.slice (some ⟨g, o + 1, none⟩) r.length (cap - 1))) P Q g r.length (o + 1) (cap - 1) r bad from (unhide HH).pop)
    clear HH
    have KP := hide (Kp.setP W P Q (.slice (some ⟨g, o + 1, none⟩) r.length (cap - 1)))
    go_wp2_with fail
    generalize W.setCell ⟨P, 0, none⟩ (.slice (some ⟨g, o + 1, none⟩) r.length (cap - 1)) = W1 at *
    have hB1 := (unhide HP).hb
    by_cases hok : ∃ v, Go.Lib.atoiAll x = .ok v
    · obtain ⟨v, hv⟩ := hok
      have hvb := Go.Lib.atoiAll_bounds hv
      have HA := hide (Atoi_ok x (by omega) v hv W1)
      have HNW := hide (show numW x = if v < 0 ∨ 5 < x.length ∨ Go.Lib.itoa v ≠ x then none else some v from by unfold numW; rw [hv])
      clear hv
      refine (unhide HA).mono ?_
      rintro e W2 ⟨rfl, hb2⟩
      have HP2 := hide ((unhide HP).below hb2)
      have KP2 := hide ((unhide KP).trans (Kp.of_below hb2))
      clear HA HP hb2 KP
      have hq := (unhide HP2).c1
      obtain ⟨q0, q1⟩ := hq
      by_cases hv0 : v < 0
      · have HX := hide (show numW x = none from by rw [unhide HNW, if_pos (.inl hv0)])
        have FIN := hide (next_bad (unhide HP2) (unhide KP2) v (unhide HX))
        clear HP2 HNW HX
        go_wp2
        go_ret
        exact unhide FIN
      by_cases h5 : 5 < x.length
      · have HX := hide (show numW x = none from by rw [unhide HNW, if_pos (.inr (.inl h5))])
        have FIN := hide (next_bad (unhide HP2) (unhide KP2) v (unhide HX))
        clear HP2 HNW HX
        go_wp2
        go_ret
        exact unhide FIN
      have HI := hide (Itoa_all v W2 hvb.1 hvb.2 (unhide hTW W2 (unhide HP2).hb))
      go_wp2_with fail
      refine (unhide HI).mono ?_
      rintro e W3 ⟨rfl, hb3⟩
      have HP3 := hide ((unhide HP2).below hb3)
      have KP3 := hide ((unhide KP2).trans (Kp.of_below hb3))
      clear HP2 HI hb3 q0 q1 KP2
      have hq := (unhide HP3).c1
      obtain ⟨q0, q1⟩ := hq
      have hnb : numB v = mkS (Go.Lib.itoa v) := rfl
      rw [hnb]
      clear hnb
      by_cases hi : Go.Lib.itoa v = x
      · have HX := hide (show numW x = some v from by rw [unhide HNW, if_neg]; rintro (h | h | h) <;> first | omega | exact h hi)
        have FIN := hide (next_good (unhide HP3) (unhide KP3) v (unhide HX))
        have heq : ((mkS x).toList == (mkS x).toList) = true := by simp
        rw [hi]
        clear HP3 HNW HX hi
        go_wp2
        go_ret
        exact unhide FIN
      · have HX := hide (show numW x = none from by rw [unhide HNW, if_pos (.inr (.inr hi))])
        have FIN := hide (next_bad (unhide HP3) (unhide KP3) v (unhide HX))
        have heq := text_ne hi
        clear HP3 HNW HX hi
        generalize mkS (Go.Lib.itoa v) = u at heq ⊢
        go_wp2
        go_ret
        exact unhide FIN
    · have HA := hide (Atoi_no x (by omega) (fun v hv => hok ⟨v, hv⟩) W1 (unhide hEW W1 hB1))
      have HX := hide (show numW x = none from by
        unfold numW
        split
        · rename_i v hv; exact absurd ⟨v, hv⟩ hok
        · rfl)
      clear hok
      refine (unhide HA).mono ?_
      rintro e W2 ⟨m, t, q, rfl, hb2⟩
      have HP2 := hide ((unhide HP).below hb2)
      have KP2 := hide ((unhide KP).trans (Kp.of_below hb2))
      clear HA HP hb2 KP
      have hq := (unhide HP2).c1
      obtain ⟨q0, q1⟩ := hq
      have FIN := hide (next_bad (unhide HP2) (unhide KP2) m (unhide HX))
      clear HP2 HX
      go_wp2
      go_ret
      exact unhide FIN

set_option maxRecDepth 100000 in
set_option maxHeartbeats 1000000 in
theorem numbersOf_any (g o n cap : Nat) (w : World) :
    Calls Tryd.prog 15 #[.slice (some ⟨g, o, none⟩) n cap] w fun e w' =>
      e = .returned (.tuple #[.func (.func 26) #[] #[.pointer (some ⟨w.heap.size, 0, none⟩), .pointer (some ⟨w.heap.size + 1, 0, none⟩)], .func (.func 29) #[] #[.pointer (some ⟨w.heap.size + 1, 0, none⟩), .pointer (some ⟨w.heap.size, 0, none⟩)]]) ∧
      w'.heap[w.heap.size]? = some (.cells #[.slice (some ⟨g, o, none⟩) n cap] 32 (0, 0)) ∧ w'.heap[w.heap.size + 1]? = some (.cells #[.bool false] 4 (0, 0)) ∧ Below w.heap.size w w' := by
  have hmf : ∀ (fn : Fn) (first cap : Array Value) (w : World), (Instr.makeFunc fn first cap).run Tryd.prog w = .ok (.func fn first cap) w := fun _ _ _ _ => rfl
  go_enter Tryd.func15, Tryd.ntmps15
  go_wp2
  go_ret2
  have h1 := World.alloc_heap_new w (.cells #[.slice (some ⟨g, o, none⟩) n cap] 32)
  have h2 := World.alloc_heap_new (w.alloc (.cells #[.slice (some ⟨g, o, none⟩) n cap] 32)) (.cells #[.bool false] 4)
  have h3 := (cell_below (w.alloc (.cells #[.slice (some ⟨g, o, none⟩) n cap] 32)) (.cells #[.bool false] 4)).block w.heap.size (by simp)
  exact ⟨rfl, h3.trans h1, by simpa using h2, bstep (cell_below _ _) (cell_below _ _)⟩
end Go.Proofs.YthelpghiafbejaaDoor
