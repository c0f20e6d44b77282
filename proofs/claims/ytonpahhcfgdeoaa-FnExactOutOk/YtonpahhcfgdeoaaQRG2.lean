/- The walk of ring. -/
import Derived.Test.YtonpahhcfgdeoaaQRG1
import Derived.Test.YtonpahhcfgdeoaaQPB2PB3
import Derived.Deep.LoopGhost
import Derived.Deep.AppendLies
namespace Go.Proofs.Ytonpahhcfgdeoaa
open Go.RowKit Go.Maps
set_option linter.unusedVariables false
set_option linter.unusedSimpArgs false

theorem stackOf_nil {p : List (Int × List Int)} {S : List Int} (h : stackOf p S = []) : p = [] ∧ S = [] := by
  cases p with
  | nil => exact ⟨rfl, h⟩
  | cons x q => simp [stackOf] at h

/-- What is known of a variable that is neither opened nor closed, on top of the stack. -/
theorem top_new {s : List B} {cl : List Int} {p : List (Int × List Int)} {S r : List Int} {v : Int} (h : Dfs s cl p S) (hs : stackOf p S = v :: r) (hc : v ∉ cl) (ho : v ∉ p.map (·.1)) :
    (∀ y, p.head? = some y → kid s y.1 v) ∧ ∀ ks : List Int, (∀ u, u ∈ ks ↔ kid s v u) → (∀ u ∈ ks, u ≠ v ∧ u ∉ p.map (·.1)) → ∃ p' S', Dfs s cl p' S' ∧ stackOf p' S' = ks ++ v :: r ∧ p'.map (·.1) = v :: p.map (·.1) := by
  rcases (h.top hs).2 with ⟨q, rfl, rfl⟩ | ⟨_, ⟨S', rfl, rfl, rfl⟩ | ⟨d, T, q, rfl, rfl⟩⟩
  · simp at ho
  · exact ⟨by simp, fun ks hk hn => ⟨[(v, ks)], r, h.open0 hc hk (fun hv => (hn v hv).1 rfl), rfl, rfl⟩⟩
  · refine ⟨fun y hy => ?_, fun ks hk hn => ⟨(v, ks) :: (d, T) :: q, S, h.open1 hc hk hn, rfl, rfl⟩⟩
    simp at hy
    subst hy
    obtain ⟨_, _, _, _, _, _, h7, _⟩ := h.path
    exact h7 v (by simp)

/-- One that is opened or closed is taken from the stack. -/
theorem top_old {s : List B} {cl : List Int} {p : List (Int × List Int)} {S r : List Int} {v : Int} {D : DataW Unit} (h : Dfs s cl p S) (hs : stackOf p S = v :: r) (hT : TabS cl (p.map (·.1)) D) (ho : v ∈ cl ∨ v ∈ p.map (·.1)) :
    ∃ cl' p' S', Dfs s cl' p' S' ∧ stackOf p' S' = r ∧ TabS cl' (p'.map (·.1)) (D.put (.int .i64 v) (.lit (.int .i64 2))) ∧ unop s cl' (p'.map (·.1)) ≤ unop s cl (p.map (·.1)) := by
  rcases (h.top hs).2 with ⟨q, rfl, rfl⟩ | ⟨hn, hx⟩
  · obtain ⟨_, _, h3, _⟩ := h.path
    exact ⟨v :: cl, q, S, h.close, rfl, tabS_close hT h3, unop_close⟩
  · have hc : v ∈ cl := by
      rcases ho with ho | ho
      · exact ho
      · exact absurd ho hn
    rcases hx with ⟨S', rfl, rfl, rfl⟩ | ⟨d, T, q, rfl, rfl⟩
    · exact ⟨cl, [], r, h.pass0 hc, rfl, tabS_pass hT hc, Nat.le_refl _⟩
    · exact ⟨cl, (d, T) :: q, S, h.pass1 hc, rfl, tabS_pass hT hc, Nat.le_refl _⟩

theorem st_zero {cl op : List Int} {v : Int} (h : st cl op v = 0) : v ∉ cl ∧ v ∉ op := by
  unfold st at h
  split at h
  · omega
  · rename_i h1
    split at h
    · omega
    · rename_i h2; exact ⟨h1, h2⟩
theorem st_some {cl op : List Int} {v : Int} (h : st cl op v ≠ 0) : v ∈ cl ∨ v ∈ op := by
  unfold st at h
  split at h
  · rename_i h1; exact .inl h1
  · split at h
    · rename_i h2; exact .inr h2
    · exact absurd rfl h
theorem st_one {cl op : List Int} {v : Int} (h : st cl op v = 1) : v ∈ op := by
  unfold st at h
  split at h
  · omega
  · split at h
    · assumption
    · omega
theorem st_not {cl op : List Int} {v : Int} (h : st cl op v ≠ 1) (hc : v ∉ cl) : v ∉ op := by
  intro ho
  exact h (by simp [st, hc, ho])

theorem own_capI {w : World} {base n cap : Nat} {ao : Option Addr} {z : List Int} (h : OwnI w base (.slice ao n cap) z) : z.length ≤ cap ∧ cap ≤ maxLen := by
  rcases h.2 with ⟨e, hn⟩ | ⟨g, cap', cur, e, _, _, hc, hm, _⟩
  · simp only [Value.slice.injEq] at e
    omega
  · simp only [Value.slice.injEq] at e
    omega

theorem OwnI.apart {w w1 : World} {base : Nat} {v : Value} {z : List Int} {row : Option Nat} (h : OwnI w base v z) (hg : w.grownBy w1 row) (hr : ∀ k, row = some k → k < base ∨ w.heap.size ≤ k) : OwnI w1 base v z := own_apart h hg hr

/-- What ring tells. -/
def RingOut (s : List B) (w : World) (e : Ending) (w' : World) : Prop := ∃ r : Bool, e = .returned (.bool r) ∧ (r = true → ¬ NoRing s) ∧ (r = false → ∃ ρ, Ranked s ρ) ∧ Below w.heap.size w w'
theorem ringOut_yes {s : List B} {w w' : World} (h : ¬ NoRing s) (hb : Below w.heap.size w w') : RingOut s w (.returned (.bool true)) w' := ⟨true, rfl, fun _ => h, by simp, hb⟩
theorem ringOut_no {s : List B} {w w' : World} {ρ : Int → Nat} (h : Ranked s ρ) (hb : Below w.heap.size w w') : RingOut s w (.returned (.bool false)) w' := ⟨false, rfl, by simp, fun _ => ⟨ρ, h⟩, hb⟩

/-- How far ring has come. -/
def RingAt (s : List B) (w : World) (k : Nat) (o : Value) (wr : World) : Prop :=
  ∃ cl p S n D, Dfs s cl p S ∧ OwnI wr (w.heap.size + 1) o (stackOf p S).reverse ∧ wr.ownsMap Try.prog 3 (plainElem Try.prog 3) w.heap.size n D ∧ TabS cl (p.map (·.1)) D ∧ Below w.heap.size w wr ∧ w.heap.size + 1 ≤ wr.heap.size ∧
    k = 41 * unop s cl (p.map (·.1)) + (stackOf p S).length ∧ n + k ≤ 44040192

theorem cell_one_at (w : World) (x : Value) (T N : Nat) (hN : w.heap.size = N) : ∀ j u, [x][j]? = some u → (w.alloc (.cells #[x] T)).cell? ((⟨N, 0, none⟩ : Addr).add j) = some u := by
  subst hN
  intro j u h
  match j with
  | 0 => simp at h; subst h; simp [go_sem, Addr.add]
  | j + 1 => simp at h

set_option maxRecDepth 100000 in
set_option maxHeartbeats 4000000 in
theorem ring_any (lo P : Nat) (S : Nat → Prop) (s : List B) (w : World) (hs : s.length ≤ 1048576) (hB : Bnd lo w P S s) (hv : ∀ x ∈ s, 0 ≤ x.v ∧ x.v ≤ 99999) (ht : ∀ x ∈ s, trm x.t = true) (hon : Once s) :
    Calls Try.prog 98 #[.pointer (some ⟨P, 0, none⟩)] w (RingOut s w) := by
  have hbound : ∀ v, getB s v ≠ [] ↔ v ∈ s.map (·.v) := fun v => by
    constructor
    · intro h; obtain ⟨x, hx, e, _⟩ := getB_mem h; exact List.mem_map.2 ⟨x, hx, e⟩
    · intro h
      obtain ⟨x, hx, rfl⟩ := List.mem_map.1 h
      rw [getB_of hon hx]
      intro e
      have := ht x hx
      rw [e, trm_nil] at this
      cases this
  have hwf : ∀ v, getB s v ≠ [] → (Lit.int .i64 v).wf = true := fun v h => by
    obtain ⟨x, hx, rfl, _⟩ := getB_mem h
    exact WalkArith.wf_i64 (by have := hv x hx; omega)
  have htr : ∀ v, getB s v ≠ [] → trm (getB s v) = true := fun v h => by
    obtain ⟨x, hx, _, e⟩ := getB_mem h
    rw [← e]; exact ht x hx
  obtain ⟨i0, hi, hz0, hz1, hz2⟩ := info_parts Try.infoInt
  have HBD := hide hbound
  have HWF := hide hwf
  have HTR := hide htr
  clear hbound hwf htr hv ht hon
  have hmm := @run_makeMap Try.prog
  have hPl := hB.lt
  obtain ⟨ao, cap, rs, hc0, hrsl, hrow, hgb⟩ : ∃ (ao : Option Addr) (cap : Nat) (rs : List Nat), w.cell? ⟨P, 0, none⟩ = some (.slice ao s.length cap) ∧ rs.length = s.length ∧ (s = [] ∨ ∃ g, ao = some ⟨g, 0, none⟩ ∧ ∀ i, (h : i < s.length) → (h' : i < rs.length) → w.cell? ⟨g, i * 2, none⟩ = some (.int .i64 s[i].v) ∧ w.cell? ⟨g, i * 2 + 1, none⟩ = some (.pointer (some ⟨rs[i], 0, none⟩))) ∧ True := by
    obtain ⟨ov, M, n, D, rs, h1, _, _, h4, _⟩ := hB
    obtain ⟨ao, cap, rfl, h⟩ := h4.shape
    exact ⟨ao, cap, rs, h1.cells.1, h4.2, h, trivial⟩
  have hc1 : (w.alloc (.map #[] 0)).cell? ⟨P, 0, none⟩ = some (.slice ao s.length cap) := ((cell_below w (.map #[] 0)).cell (p := ⟨P, 0, none⟩) hPl).trans hc0
  have hsl : s.length ≤ 4194304 := by omega
  obtain ⟨z, hz⟩ : ∃ z, z = s.map (·.v) := ⟨_, rfl⟩
  have hzl : z.length = s.length := by rw [hz]; simp
  have HZ := hide hz
  have HROW := hide hrow
  clear hz hrow hc0 hgb
  go_enter Try.func98, Try.ntmps98
  go_wp2
  go_loopw [4, 16] (fun o i wr => ∃ (k : Nat), k ≤ s.length ∧ i = .int .i64 k ∧ OwnI wr (w.heap.size + 1) o (z.take k) ∧ Below (w.heap.size + 1) (w.alloc (.map #[] 0)) wr) (fun _ i _ => s.length - (intOf i).toNat)
  case atStart => exact ⟨0, Nat.zero_le _, rfl, World.ownsRow_nil _ _ _ _, Below.refl _ _⟩
  case round =>
    clear hc1
    obtain ⟨k, hk, rfl, hO, hBk⟩ := hrel
    have hsz0 := hBk.size
    simp at hsz0
    by_cases hlt : k < s.length
    · obtain ⟨g, rfl, hcl⟩ := (unhide HROW).resolve_left (fun h => by rw [h] at hlt; simp at hlt)
      obtain ⟨q0, q1⟩ := hcl k hlt (by omega)
      have hgl : g < w.heap.size := World.block_lt_of_cell? w ⟨g, _, none⟩ q0
      have hBw0 : Below w.heap.size w wr := (cell_below w (.map #[] 0)).trans (hBk.mono (by omega))
      have d0 := (hBw0.cell (p := ⟨g, k * 2, none⟩) hgl).trans q0
      have d1 := (hBw0.cell (p := ⟨g, k * 2 + 1, none⟩) hgl).trans q1
      have HTK : Hid (z.take (k + 1) = z.take k ++ [s[k].v]) := by
        show _ = _
        have hkz : k < z.length := by omega
        rw [List.take_succ_eq_append_getElem hkz]
        have hz := unhide HZ
        subst hz
        simp
      generalize s[k].v = x at d0 HTK
      generalize rs[k] = r at d1
      obtain ⟨zz, hzz⟩ : ∃ zz, zz = z.take k := ⟨_, rfl⟩
      have hzzl : zz.length ≤ 4194304 := by rw [hzz]; simp; omega
      rw [← hzz] at hO HTK
      clear hzz q0 q1 hcl hBw0
      obtain ⟨oa, oc, rfl, _⟩ := hO.shape
      go_wp2_with (at_builtin; refine wpList_append_lies _ rfl _ _ 87 rfl (w.heap.size + 1) 3 i0 (.int .i64 0) 1 8 Try.underlying87 hi hz0 hz1 hz2 rfl (by decide) _ zz.length _ rfl (World.ownsRow.alloc (World.ownsRow.alloc hO _) _) ⟨wr.heap.size + 1, 0, none⟩ 1 1 [.int .i64 x] rfl rfl (cell_one_at _ _ _ _ (by simp)) (by simp [Value.oneCell']) (by omega) (by unfold maxLen; omega) (by omega) (by simp; omega) (wr.heap.size + 1 + 1) (by simp) ?_; intro g' cap' w5 hown' hgrow hat hgl')
      have hB5 : Below (w.heap.size + 1) (w.alloc (.map #[] 0)) w5 := ((hBk.alloc (by omega) _).alloc (by simp; omega) _).grown hgrow (by simp; omega) (fun q e => (hO.lt q e).1)
      have hO5 : OwnI w5 (w.heap.size + 1) (.slice (some ⟨g', 0, none⟩) (zz.length + 1) cap') (zz ++ [x]) := by
        unfold OwnI
        rw [show nums (zz ++ [x]) = nums zz ++ [.int .i64 x] by simp [nums], show (zz ++ [x]).length = zz.length + 1 by simp]
        exact hown'
      rw [← unhide HTK] at hO5
      clear hown' hgrow hat hgl' hO hBk d0 d1
      go_wp2
      go_roundw
      case rel => exact ⟨k + 1, by omega, by go_num, hO5, hB5⟩
      case measure => simp [intOf]; omega
    · have e : k = s.length := by omega
      subst e
      rw [show z.take s.length = z from by rw [← hzl, List.take_length]] at hO
      have hO1 := hO
      have hm1 : wr.ownsMap Try.prog 3 (plainElem Try.prog 3) w.heap.size 0 (.map [] : DataW Unit) := (World.ownsMap_made w Try.prog 3 (plainElem Try.prog 3)).kept (row := none) ⟨hBk.os, hBk.tape, hBk.output, hBk.size, fun j hj _ => hBk.block j (by simpa using hj)⟩ (by simp)
      have hB1w : Below w.heap.size w wr := (cell_below w (.map #[] 0)).trans (hBk.mono (by omega))
      have hs1 : w.heap.size + 1 ≤ wr.heap.size := hsz0
      clear hO hBk hlt hsz0
      obtain ⟨oa0, oc0, rfl, _⟩ := hO1.shape
      go_wp2
      go_loopg [4] (41 * unop s [] [] + z.length) (fun k o wr => RingAt s w k o wr)
      case atStart =>
        refine ⟨[], [], z.reverse, 0, _, Dfs.start (fun v hv => ?_) (fun v hv => ?_), ?_, hm1, tabS_nil, hB1w, by omega, ?_, ?_⟩
        · rw [unhide HBD]; rw [← unhide HZ]; simpa using hv
        · rw [unhide HBD, ← unhide HZ] at hv; simpa using hv
        · simp only [stackOf, List.reverse_reverse]; simpa using hO1
        · simp [stackOf]
        · have := unop_le s [] []
          have := congrArg List.length (unhide HZ)
          simp at this
          omega
      case round =>
        clear hm1 hO1 hB1w hs1
        obtain ⟨cl, p, S0, n, D, hD, hO, hM, hT, hBw, hsz, hk, hn⟩ := hrel
        cases hstk : stackOf p S0 with
        | nil =>
          obtain ⟨rfl, rfl⟩ := stackOf_nil hstk
          have HR := hide hD.ranked
          obtain ⟨qa, qc, rfl, _⟩ := hO.shape
          simp only [stackOf, List.reverse_nil, List.length_nil]
          clear hD hO hM hT hk hn
          go_wp2
          go_ret
          exact ringOut_no (unhide HR) hBw
        | cons v r =>
          rw [hstk] at hO hk
          rw [List.reverse_cons] at hO
          have hvb := (hD.top hstk).1
          have hwv := unhide HWF v hvb
          obtain ⟨zl, hzl⟩ : ∃ zl, zl = r.reverse := ⟨_, rfl⟩
          rw [← hzl] at hO
          have hrl : r.length = zl.length := by rw [hzl]; simp
          have HZL := hide hzl
          clear hzl
          obtain ⟨oa, oc, rfl, hRo⟩ := hO.shape
          have hll : (zl ++ [v]).length = zl.length + 1 := by simp
          obtain ⟨g, goff, ea, hAt⟩ : ∃ b off, oa = some ⟨b, off, none⟩ ∧ AtI wr b off (zl ++ [v]) := by
            rcases hRo with h | h
            · simp at h
            · exact h
          subst ea
          have c0 := hAt zl.length (by simp)
          rw [List.getElem_append_right (Nat.le_refl _)] at c0
          simp only [Nat.sub_self, List.getElem_cons_zero] at c0
          have hlen : zl.length ≤ 44040192 := by rw [List.length_cons] at hk; omega
          have HO := hide hO
          have HPOP := hide (own_pop hO)
          have hoc := own_capI hO
          rw [hll] at hoc
          have hgne : g ≠ w.heap.size := by have := (hO.lt g rfl).1; omega
          have hgl : g < wr.heap.size := (hO.lt g rfl).2
          have HD := hide hD
          have HST := hide hstk
          have HT := hide hT
          have HAT := hide (hT.2 v)
          have HK := hide hk
          have hnl : n < maxLen := by unfold maxLen; omega
          clear hO hD hstk hT hRo hAt hk
          rw [hll]
          clear hll
          by_cases hst : st cl (p.map (·.1)) v = 0
          · obtain ⟨hnc, hno⟩ := st_zero hst
            have hstb : (st cl (p.map (·.1)) v != 0) = false := by simpa using hst
            have hw1 : (Lit.int .i64 (1 : Int)).wf = true := by decide
            have HTO := hide (tabS_open (unhide HT) hnc)
            have HNEW := hide (top_new (unhide HD) (unhide HST) hnc hno)
            have HUN := hide (unop_open (s := s) ((unhide HBD v).1 hvb) hnc hno)
            have htv := unhide HTR v hvb
            have hokv : ∀ c ∈ getB s v, okC c = true := ((trm_iff _).1 htv).2.2.1
            have hl40 := (trm_len htv).2
            have HOKV := hide hokv
            clear hokv htv hst
            go_wp2_with (first | (at_lookup; refine wpList_lookup_own_int _ rfl _ _ 127 rfl 3 3 .i64 (int_keyed Try.underlying3) Try.underlying127 Try.underlying3 (zeroInt _) w.heap.size n D rfl hM _ _ rfl (keyOf_int_mk Try.underlying3 hwv) ?_; intro cc hat hwc; rw [unhide HAT] at hat; simp only [DataW.lit.injEq, Lit.int.injEq, true_and] at hat; subst hat) | (at_mapUpdate; refine wpList_mapUpdate_own _ rfl _ _ _ 127 rfl 3 3 (int_keyed Try.underlying3) Try.underlying127 _ w.heap.size n D rfl hM hnl _ _ _ rfl rfl (keyOf_int_mk Try.underlying3 hwv) _ [] (plainElem_int Try.underlying3 hw1) ?_; intro w2 hM2 hg2; have hBw2 : Below w.heap.size w w2 := hBw.grown hg2 hBw.size (fun j e => by cases e; exact Nat.le_refl _); have hB2 := hB.below hBw2))
            refine (get_any lo P S s v _ hsl hB2 hwv).mono ?_
            rintro e w2' ⟨hwe, hgo⟩
            have hwe' := hwe.symm
            subst hwe'
            obtain ⟨pt, rfl, htr2⟩ : ∃ pt, e = .returned (.pointer (some ⟨pt, 0, none⟩)) ∧ TreeAt S w2 pt (getB s v) := by
              rcases hgo with h | ⟨_, pt, h1, h2⟩
              · exact absurd h.1 hvb
              · exact ⟨pt, h1, h2⟩
            clear hgo
            go_wp2_with fail
            refine (boundIn_any lo P pt S s (getB s v) _ hB2 htr2 (unhide HOKV) (by omega) hsl).mono ?_
            rintro e w3 ⟨vm, rfl, hOm, hb3⟩
            have hOx : OwnI wr (w.heap.size + 1) (.slice (some ⟨g, goff, none⟩) (zl.length + 1) oc) (zl ++ [v]) := by simpa using unhide HO
            have hO3 := (hOx.apart hg2 (fun j e => .inl (by cases e; omega))).below hb3
            clear hOx
            have hM3 := hM2.kept (row := none) ⟨hb3.os, hb3.tape, hb3.output, hb3.size, fun j hj _ => hb3.block j hj⟩ (by simp)
            have hd3 : vm.ownBlock = none ∨ vm.ownBlock ≠ (Value.slice (some ⟨g, goff, none⟩) (zl.length + 1) oc).ownBlock := by
              cases hvv : vm.ownBlock with
              | none => exact .inl rfl
              | some q =>
                right
                intro e
                have e' : q = g := by simpa [Value.ownBlock] using e
                have h1 := (hOm.lt q hvv).1
                have := hg2.size
                omega
            have hkl : (kidsL s (getB s v)).length ≤ 40 := Nat.le_trans (kidsL_len _ _) hl40
            have HKM : Hid (∀ u, u ∈ kidsL s (getB s v) ↔ kid s v u) := fun u => mem_kidsL
            have hB3 := bstep hBw2 hb3
            have hsz3 : w.heap.size + 1 ≤ w3.heap.size := Nat.le_trans (Nat.le_trans hsz hg2.size) hb3.size
            obtain ⟨ks, hks⟩ : ∃ ks, ks = kidsL s (getB s v) := ⟨_, rfl⟩
            rw [← hks] at hOm hkl HKM
            clear hks
            obtain ⟨ma, mc, rfl, _⟩ := hOm.shape
            obtain ⟨mb0, hmb0⟩ : ∃ m, m = w2.heap.size := ⟨_, rfl⟩
            rw [← hmb0] at hOm
            have HD3 := hide hd3
            clear hmb0 hd3 hM2 hg2 hBw2 hB2 htr2 hM HPOP HO HAT hoc c0 hb3
            obtain ⟨D1, hD1⟩ : ∃ D1 : DataW Unit, D1 = D.put (.int .i64 v) (.lit (.int .i64 1)) := ⟨_, rfl⟩
            rw [← hD1] at hM3 HTO
            clear hD1
            go_wp2
            go_loopw [4, 54] (fun o i wq => ∃ (j : Nat), j ≤ ks.length ∧ i = .int .i64 j ∧ OwnI wq (w.heap.size + 1) o (zl ++ [v] ++ ks.take j) ∧ OwnI wq mb0 (.slice ma ks.length mc) ks ∧ ((Value.slice ma ks.length mc).ownBlock = none ∨ (Value.slice ma ks.length mc).ownBlock ≠ o.ownBlock) ∧ wq.ownsMap Try.prog 3 (plainElem Try.prog 3) w.heap.size (n + 1) D1 ∧ (∀ m, (h : m < ks.length) → m < j → ks[m] ∉ v :: p.map (·.1)) ∧ Below w.heap.size w wq ∧ w.heap.size + 1 ≤ wq.heap.size) (fun _ i _ => ks.length - (intOf i).toNat)
            case atStart => exact ⟨0, Nat.zero_le _, rfl, by simpa using hO3, hOm, unhide HD3, hM3, fun m _ h => absurd h (Nat.not_lt_zero _), hB3, hsz3⟩
            case round =>
              clear hO3 hOm HD3 hM3 hB3 hsz3
              obtain ⟨j, hj, rfl, hOw, hOm, hdd, hM, hne, hBq, hszq⟩ := hrel
              have HNE := hide hne
              have HDD := hide hdd
              clear hne hdd
              obtain ⟨zz, hzz⟩ : ∃ zz, zz = zl ++ [v] ++ ks.take j := ⟨_, rfl⟩
              rw [← hzz] at hOw
              have hzzl : zz.length ≤ 44040300 := by rw [hzz]; simp; omega
              have HZZ := hide hzz
              clear hzz
              obtain ⟨oa2, oc2, rfl, _⟩ := hOw.shape
              have hRm := hOm.row
              by_cases hlt : j < ks.length
              · rcases hRm with h | ⟨mb, moff, rfl, hAm⟩
                · rw [h] at hlt; simp at hlt
                have d0 := hAm j hlt
                have HTK : Hid (zl ++ [v] ++ ks.take (j + 1) = zz ++ [ks[j]]) := by show _ = _; rw [unhide HZZ, List.take_succ_eq_append_getElem hlt, ← List.append_assoc]
                have hkid := (unhide HKM _).1 (List.getElem_mem hlt)
                have HSTP : Hid (ks[j] ∉ v :: p.map (·.1) → ∀ m, (h : m < ks.length) → m < j + 1 → ks[m] ∉ v :: p.map (·.1)) := fun h m hm hmj => by
                  by_cases e : m = j
                  · subst e; exact h
                  · exact unhide HNE m hm (by omega)
                have HAT2 := hide ((unhide HTO).2 ks[j])
                obtain ⟨x, hx⟩ : ∃ x, x = ks[j] := ⟨_, rfl⟩
                rw [← hx] at d0 HTK hkid HSTP HAT2
                clear hx
                have hwx := unhide HWF x hkid.2
                have hmbl : mb < wr.heap.size := World.block_lt_of_cell? wr ⟨mb, _, none⟩ d0
                by_cases h1 : st cl (v :: p.map (·.1)) x = 1
                · have hsb : (st cl (v :: p.map (·.1)) x == 1) = true := by simpa using h1
                  have HRING := hide (ring_of (unhide HD).path (unhide HNEW).1 hkid (List.mem_cons.1 (st_one h1)))
                  clear h1
                  go_wp2_with (at_lookup; refine wpList_lookup_own_int _ rfl _ _ 127 rfl 3 3 .i64 (int_keyed Try.underlying3) Try.underlying127 Try.underlying3 (zeroInt _) w.heap.size (n + 1) D1 rfl hM _ _ rfl (keyOf_int_mk Try.underlying3 hwx) ?_; intro cc hat hwc; rw [unhide HAT2] at hat; simp only [DataW.lit.injEq, Lit.int.injEq, true_and] at hat; subst hat)
                  go_ret
                  exact ringOut_yes (unhide HRING) hBq
                · have hsb : (st cl (v :: p.map (·.1)) x == 1) = false := by simpa using h1
                  have hxn : x ∉ v :: p.map (·.1) := fun hm => h1 (by
                    have : x ∉ cl := fun hc => by
                      rcases List.mem_cons.1 hm with rfl | hm
                      · exact hnc hc
                      · obtain ⟨y, hy, rfl⟩ := List.mem_map.1 hm
                        exact ((unhide HD).path.bound y hy).2 hc
                    simp [st, this, hm])
                  have HS2 := hide (unhide HSTP hxn)
                  have HA2 := hide (fun (w1 : World) (g' cap' : Nat) => app_two (w1 := w1) (g' := g') (cap' := cap') (x := x) hOw hOm (unhide HDD))
                  have hd1 := ((cell_below wr (.cells #[.int .i64 x] 3)).cell (p := ⟨mb, moff + j, none⟩) hmbl).trans d0
                  have hmne : some w.heap.size ≠ (Value.slice oa2 zz.length oc2).ownBlock := fun e => by have := (hOw.lt _ e.symm).1; omega
                  have HMAP := hide (World.ownsMap.alloc hM (.cells #[.int .i64 x] 3))
                  clear h1 hxn
                  go_wp2_with (first | (at_lookup; refine wpList_lookup_own_int _ rfl _ _ 127 rfl 3 3 .i64 (int_keyed Try.underlying3) Try.underlying127 Try.underlying3 (zeroInt _) w.heap.size (n + 1) D1 rfl hM _ _ rfl (keyOf_int_mk Try.underlying3 hwx) ?_; intro cc hat hwc; rw [unhide HAT2] at hat; simp only [DataW.lit.injEq, Lit.int.injEq, true_and] at hat; subst hat) | (at_builtin; refine wpList_append_lies _ rfl _ _ 87 rfl (w.heap.size + 1) 3 i0 (.int .i64 0) 1 8 Try.underlying87 hi hz0 hz1 hz2 rfl (by decide) _ zz.length _ rfl (World.ownsRow.alloc hOw _) ⟨wr.heap.size, 0, none⟩ 1 1 [.int .i64 x] rfl rfl (cell_one_new _ _ _) (by simp [Value.oneCell']) (by omega) (by unfold maxLen; omega) (by omega) (by simp; omega) (wr.heap.size + 1) (by simp) ?_))
                  intro g' cap' w5 hown' hgrow hat hgl'
                  have R := unhide HA2 _ _ _ hown' hgrow hat
                  have hM5 := (unhide HMAP).kept hgrow hmne
                  have hB5 : Below w.heap.size w w5 := (hBq.alloc hBq.size _).grown hgrow (by have := hBq.size; simp; omega) (fun q e => by have := (hOw.lt q e).1; omega)
                  have hs5 : w.heap.size + 1 ≤ w5.heap.size := by have := hgrow.size; simp at this; omega
                  have HR := hide R
                  have hll : (zz ++ [x]).length = zz.length + 1 := by simp
                  rw [hll] at HR
                  clear R hown' hgrow hat hgl' hOw hOm HA2 d0 hd1 hAm hM HMAP hmne
                  go_wp2
                  go_roundw
                  case rel => exact ⟨j + 1, by omega, by go_num, by rw [unhide HTK]; exact (unhide HR).1, (unhide HR).2.1, (unhide HR).2.2, hM5, unhide HS2, hB5, hs5⟩
                  case measure => simp [intOf]; omega
              · have hjl : j = ks.length := by omega
                subst hjl
                have hzz := unhide HZZ
                rw [List.take_length] at hzz
                have HOW := hide hOw
                have HZ2 := hide hzz
                clear hzz
                obtain ⟨p', S', hD', hs', hpm'⟩ := (unhide HNEW).2 ks.reverse (fun u => by rw [List.mem_reverse]; exact unhide HKM u) (fun u hu => by
                  obtain ⟨m, hm, rfl⟩ := List.getElem_of_mem (List.mem_reverse.1 hu)
                  have := unhide HNE m hm hm
                  simpa using this)
                have hk' := unhide HK
                have hun' := unhide HUN
                rw [List.length_cons] at hk'
                have HD' := hide hD'
                have HS' := hide hs'
                have HPM := hide hpm'
                clear hD' hs' hpm'
                go_wp2
                go_roundg (41 * unop s cl (v :: p.map (·.1)) + (ks.length + r.length + 1))
                case measure => omega
                case rel =>
                  refine ⟨cl, p', S', n + 1, D1, unhide HD', ?_, hM, by rw [unhide HPM]; exact unhide HTO, hBq, hszq, ?_, by omega⟩
                  · rw [unhide HS', List.reverse_append, List.reverse_reverse, List.reverse_cons, ← unhide HZL, ← unhide HZ2]
                    exact unhide HOW
                  · rw [unhide HS', unhide HPM]
                    simp
                    omega
          · have HOLD := hide (top_old (unhide HD) (unhide HST) (unhide HT) (st_some hst))
            have hstb : (st cl (p.map (·.1)) v != 0) = true := by simpa using hst
            have hw2 : (Lit.int .i64 (2 : Int)).wf = true := by decide
            go_wp2_with (first | (at_lookup; refine wpList_lookup_own_int _ rfl _ _ 127 rfl 3 3 .i64 (int_keyed Try.underlying3) Try.underlying127 Try.underlying3 (zeroInt _) w.heap.size n D rfl hM _ _ rfl (keyOf_int_mk Try.underlying3 hwv) ?_; intro cc hat hwc; rw [unhide HAT] at hat; simp only [DataW.lit.injEq, Lit.int.injEq, true_and] at hat; subst hat) | (at_mapUpdate; refine wpList_mapUpdate_own _ rfl _ _ _ 127 rfl 3 3 (int_keyed Try.underlying3) Try.underlying127 _ w.heap.size n D rfl hM hnl _ _ _ rfl rfl (keyOf_int_mk Try.underlying3 hwv) _ [] (plainElem_int Try.underlying3 hw2) ?_; intro w2 hM2 hg2))
            obtain ⟨cl', p', S', hD', hs', hT', hu'⟩ := unhide HOLD
            have hk' := unhide HK
            rw [List.length_cons] at hk'
            go_roundg (41 * unop s cl' (p'.map (·.1)) + r.length)
            case measure => omega
            case rel =>
              refine ⟨cl', p', S', n + 1, _, hD', ?_, hM2, hT', hBw.grown hg2 hBw.size (fun j e => by cases e; exact Nat.le_refl _), Nat.le_trans hsz hg2.size, by rw [hs'], by omega⟩
              rw [hs', ← unhide HZL]
              exact own_apart (unhide HPOP) hg2 (fun j e => .inl (by cases e; omega))
end Go.Proofs.Ytonpahhcfgdeoaa
