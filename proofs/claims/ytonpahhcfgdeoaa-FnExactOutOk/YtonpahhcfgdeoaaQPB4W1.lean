import Derived.Test.YtonpahhcfgdeoaaQPB2PB3
import Derived.Test.YtonpahhcfgdeoaaChecked
import Derived.Test.YtonpahhcfgdeoaaQPlainPlain4PB1
import Derived.WalkKit
import Derived.WalkLawsBesides
import Derived.Outline
/- To make two terms the same comes to an end. -/
namespace Go.Proofs.Ytonpahhcfgdeoaa
set_option linter.unusedVariables false
set_option linter.unusedSimpArgs false

/-- All pairs are of terms. -/
def Prs (ps : List (List C × List C)) : Prop := ∀ p ∈ ps, Trm p.1 ∧ Trm p.2

/-- All variables are among these. -/
def InV (V : List Int) (s : List B) (ps : List (List C × List C)) : Prop :=
  (∀ u v, varIn (getB s u) v → v ∈ V) ∧ ∀ p ∈ ps, ∀ v, varIn p.1 v ∨ varIn p.2 v → v ∈ V

theorem Now.inV {V : List Int} {s : List B} {ps : List (List C × List C)} (hV : InV V s ps) {n : Nat} {t x : List C} (h : Now s n t x) : (∀ v, varIn t v → v ∈ V) → ∀ v, varIn x v → v ∈ V := by
  induction h with
  | stop => exact fun h => h
  | on _ _ _ ih => exact fun _ => ih (fun v hv => hV.1 _ v hv)

def unb (V : List Int) (s : List B) : Nat := (V.filter fun v => (getB s v).isEmpty).length

theorem filter_le {α : Type} {p q : α → Bool} : ∀ {l : List α}, (∀ x ∈ l, p x = true → q x = true) → (l.filter p).length ≤ (l.filter q).length
  | [], _ => Nat.le_refl _
  | x :: l, h => by
      have ih := filter_le (p := p) (q := q) (l := l) (fun y hy => h y (by simp [hy]))
      have hx := h x (by simp)
      rw [List.filter_cons, List.filter_cons]
      cases hp : p x with
      | true => rw [hx hp]; simp; exact ih
      | false => rw [if_neg (by simp)]; split
                 · rw [List.length_cons]; omega
                 · omega

theorem filter_lt {α : Type} {p q : α → Bool} : ∀ {l : List α} {y : α}, y ∈ l → q y = true → p y = false → (∀ x ∈ l, p x = true → q x = true) → (l.filter p).length < (l.filter q).length
  | x :: l, y, hy, hq, hp, h => by
      rw [List.filter_cons, List.filter_cons]
      rcases List.mem_cons.1 hy with rfl | hy
      · rw [hq, hp]
        have := filter_le (p := p) (q := q) (l := l) (fun y hy => h y (by simp [hy]))
        simp; omega
      · have ih := filter_lt hy hq hp (fun y hy => h y (by simp [hy]))
        have hx := h x (by simp)
        cases hpx : p x with
        | true => rw [hx hpx]; simp; exact ih
        | false =>
          rw [if_neg (by simp)]; split
          · rw [List.length_cons]; omega
          · omega

theorem getB_bind {s : List B} (h : OkB s) {v : Int} {y : List C} (hv : getB s v = []) (u : Int) : getB (s ++ [⟨v, y⟩]) u = if u = v then y else getB s u := by
  have hvs : v ∉ s.map (·.v) := fun hm => (h.bound.2 hm) hv
  rw [getB_append]
  by_cases e : u = v
  · subst e; rw [if_neg hvs, if_pos rfl]; simp [getB]
  · rw [if_neg e]
    split
    · rfl
    · rename_i hn
      have e' : ¬ (v = u) := fun h => e h.symm
      simp only [getB, if_neg e']
      exact (Classical.byContradiction fun hb => hn (h.bound.1 (fun e => hb e.symm)))

theorem unb_bind {V : List Int} {s : List B} (h : OkB s) {v : Int} {y : List C} (hv : getB s v = []) (hy : y ≠ []) (hm : v ∈ V) : unb V (s ++ [⟨v, y⟩]) < unb V s := by
  unfold unb
  refine filter_lt hm (by simp [hv]) (by rw [getB_bind h hv, if_pos rfl]; cases y with | nil => exact absurd rfl hy | cons _ _ => rfl) (fun x _ hx => ?_)
  rw [getB_bind h hv] at hx
  split at hx
  · rename_i e; rw [e, hv]; rfl
  · exact hx

theorem inV_bind {V : List Int} {s : List B} {ps qs : List (List C × List C)} (h : OkB s) (hV : InV V s ps) {v : Int} {y : List C} (hv : getB s v = []) (hy : ∀ u, varIn y u → u ∈ V) (hq : ∀ p ∈ qs, p ∈ ps) : InV V (s ++ [⟨v, y⟩]) qs := by
  refine ⟨fun u w hw => ?_, fun p hp => hV.2 p (hq p hp)⟩
  rw [getB_bind h hv] at hw
  split at hw
  · exact hy w hw
  · exact hV.1 u w hw

theorem zip_mem {xs ys : List (List C)} {p : List C × List C} (h : p ∈ xs.zip ys) : p.1 ∈ xs ∧ p.2 ∈ ys := by
  obtain ⟨a, b⟩ := p
  exact ⟨(List.of_mem_zip h).1, (List.of_mem_zip h).2⟩

theorem varIn_flat {ks : List (List C)} {k : List C} (hk : k ∈ ks) {v : Int} (h : varIn k v) : varIn ks.flatten v := by
  obtain ⟨c, hc, h⟩ := h
  exact ⟨c, List.mem_flatten.2 ⟨k, hk, hc⟩, h⟩

theorem exp_split {s : List B} : ∀ {a b : List C} {m : Nat} {z : List C}, Exp s m (a ++ b) z → ∃ m1 m2 z1 z2, Exp s m1 a z1 ∧ Exp s m2 b z2 ∧ z = z1 ++ z2
  | [], b, m, z, h => ⟨0, m, [], z, .nil, h, rfl⟩
  | c :: a, b, _, _, h => by
      rw [List.cons_append] at h
      cases h with
      | keep hc h =>
        obtain ⟨m1, m2, z1, z2, h1, h2, rfl⟩ := exp_split h
        exact ⟨_, m2, c :: z1, z2, .keep hc h1, h2, rfl⟩
      | sub h1 h2 h3 h =>
        obtain ⟨m1, m2, z1, z2, k1, k2, rfl⟩ := exp_split h
        exact ⟨_, m2, _, z2, .sub h1 h2 h3 k1, k2, by simp⟩

theorem zip_fst {xs ys : List (List C)} (h : xs.length = ys.length) : (xs.zip ys).map (·.1) = xs := by
  have := List.map_fst_zip (l₁ := xs) (l₂ := ys) (by omega)
  exact this

theorem uni_ex (V : List Int) : ∀ (U N : Nat) (s : List B) (ps : List (List C × List C)) (m : Nat) (z : List C), OkB s → Prs ps → InV V s ps → (∀ v ∈ s.map (·.v), v ∈ V) → unb V s = U → Exp s m (ps.map (·.1)).flatten z → z.length = N → ∃ n res sf, Uni n s ps res sf := by
  intro U
  induction U using Nat.strongRecOn with
  | _ U ihU =>
    intro N
    induction N using Nat.strongRecOn with
    | _ N ihN =>
      intro s ps m z hs hp hV hsv hU hE hN
      cases ps with
      | nil => exact ⟨0, _, _, .done⟩
      | cons p r =>
        obtain ⟨a, b⟩ := p
        have hpab := hp (a, b) (by simp)
        have hpr : Prs r := fun q hq => hp q (by simp [hq])
        obtain ⟨n1, x, hx, hxt⟩ := now_all hs hpab.1
        obtain ⟨n2, y, hy, hyt⟩ := now_all hs hpab.2
        have hxV : ∀ v, varIn x v → v ∈ V := Now.inV hV hx (fun v hv => hV.2 (a, b) (by simp) v (.inl hv))
        have hyV : ∀ v, varIn y v → v ∈ V := Now.inV hV hy (fun v hv => hV.2 (a, b) (by simp) v (.inr hv))
        obtain ⟨c, xs, rfl, hxl, _, hco, hxs⟩ := hxt.kids
        obtain ⟨d, ys, rfl, hyl, _, hdo, hys⟩ := hyt.kids
        obtain ⟨c', r', e1, hcb⟩ := hx.head
        simp only [List.cons.injEq] at e1
        obtain ⟨rfl, rfl⟩ := e1
        obtain ⟨d', r', e1, hdb⟩ := hy.head
        simp only [List.cons.injEq] at e1
        obtain ⟨rfl, rfl⟩ := e1
        -- what binds a variable goes on with fewer that are not
        have bnd : ∀ (v : Int) (y : List C), getB s v = [] → Trm y → ¬ Reach s y v → v ∈ V → (∀ u, varIn y u → u ∈ V) → ∃ n res sf, Uni n (s ++ [⟨v, y⟩]) r res sf := fun v y hv hyt hr hvV hyV => by
          have hs' := hs.bind hv hyt hr
          obtain ⟨ρ, hρ⟩ := hs'.rank
          obtain ⟨m', z', hE'⟩ := exp_all hρ (r.map (·.1)).flatten
          exact ihU _ (by rw [← hU]; exact unb_bind hs hv hyt.ne hvV) _ (s ++ [⟨v, y⟩]) r m' z' hs' hpr (inV_bind hs hV hv hyV (fun q hq => by simp [hq])) (fun u hu => by
            rw [List.map_append, List.mem_append] at hu
            rcases hu with hu | hu
            · exact hsv u hu
            · simp at hu; rw [hu]; exact hvV) rfl hE' rfl
        by_cases ecd : c = d
        · subst ecd
          have hl : xs.length = ys.length := by omega
          rw [List.map_cons, List.flatten_cons] at hE
          obtain ⟨m1, m2, z1, z2, hE1, hE2, rfl⟩ := exp_split hE
          obtain ⟨ρ, hρ⟩ := hs.rank
          obtain ⟨m3, z3, hE3⟩ := exp_all hρ xs.flatten
          obtain ⟨m4, hE4⟩ := hx.exp hs hpab.1 (Exp.keep hcb hE3)
          obtain ⟨rfl, _⟩ := hE1.det hE4
          obtain ⟨n, res, sf, hu⟩ := ihN (z3 ++ z2).length (by rw [← hN]; simp) s (xs.zip ys ++ r) (m3 + m2) (z3 ++ z2) hs (fun q hq => by
            rcases List.mem_append.1 hq with hq | hq
            · exact ⟨hxs _ (zip_mem hq).1, hys _ (zip_mem hq).2⟩
            · exact hpr q hq) ⟨hV.1, fun q hq v hv => by
            rcases List.mem_append.1 hq with hq | hq
            · rcases hv with hv | hv
              · exact hxV v (varIn_cons.2 (.inr (varIn_flat (zip_mem hq).1 hv)))
              · exact hyV v (varIn_cons.2 (.inr (varIn_flat (zip_mem hq).2 hv)))
            · exact hV.2 q (by simp [hq]) v hv⟩ hsv hU (by
            rw [List.map_append, List.flatten_append, zip_fst hl]
            exact hE3.append hE2) rfl
          exact ⟨_, res, sf, .args hx hy hxs hys hxl hyl hu⟩
        · by_cases hc1 : c.k = 1
          · have hx0 := hxt.var hc1
            rw [hx0] at hx
            have hne : (d :: ys.flatten).head? ≠ some c := by simp; exact fun e => ecd e.symm
            by_cases hr : Reach s (d :: ys.flatten) c.n
            · exact ⟨1, _, _, .ringL hx hy hc1 hne hr⟩
            · obtain ⟨n, res, sf, hu⟩ := bnd c.n (d :: ys.flatten) (hcb hc1) hyt hr (hxV c.n (varIn_cons.2 (.inl ⟨hc1, rfl⟩))) hyV
              exact ⟨_, res, sf, .bindL hx hy hc1 hne hr hu⟩
          · by_cases hd1 : d.k = 1
            · have hy0 := hyt.var hd1
              rw [hy0] at hy
              by_cases hr : Reach s (c :: xs.flatten) d.n
              · exact ⟨1, _, _, .ringR hx hy hd1 hc1 hr⟩
              · obtain ⟨n, res, sf, hu⟩ := bnd d.n (c :: xs.flatten) (hdb hd1) hxt hr (hyV d.n (varIn_cons.2 (.inl ⟨hd1, rfl⟩))) hxV
                exact ⟨_, res, sf, .bindR hx hy hd1 hc1 hr hu⟩
            · exact ⟨1, _, _, .apart hx hy hc1 hd1 ecd⟩

/-- All variables of places. -/
def varsOf (t : List C) : List Int := t.map (·.n)
theorem mem_varsOf {t : List C} {v : Int} (h : varIn t v) : v ∈ varsOf t := by
  obtain ⟨c, hc, _, rfl⟩ := h
  exact List.mem_map.2 ⟨c, hc, rfl⟩

theorem uni_all {s : List B} {ps : List (List C × List C)} (hs : OkB s) (hp : Prs ps) : ∃ n res sf, Uni n s ps res sf := by
  obtain ⟨ρ, hρ⟩ := hs.rank
  obtain ⟨m, z, hE⟩ := exp_all hρ (ps.map (·.1)).flatten
  refine uni_ex ((s.map fun x => varsOf x.t).flatten ++ s.map (·.v) ++ (ps.map fun p => varsOf p.1 ++ varsOf p.2).flatten) _ _ s ps m z hs hp ⟨fun u v hv => ?_, fun p hp v hv => ?_⟩ (fun v hv => by simp only [List.mem_append]; exact .inl (.inr hv)) rfl hE rfl
  · obtain ⟨x, hx, _, e⟩ := getB_mem (ne_of_varIn hv)
    rw [← e] at hv
    simp only [List.mem_append]
    exact .inl (.inl (List.mem_flatten.2 ⟨_, List.mem_map.2 ⟨x, hx, rfl⟩, mem_varsOf hv⟩))
  · simp only [List.mem_append]
    refine .inr (List.mem_flatten.2 ⟨_, List.mem_map.2 ⟨p, hp, rfl⟩, ?_⟩)
    rcases hv with hv | hv
    · exact List.mem_append.2 (.inl (mem_varsOf hv))
    · exact List.mem_append.2 (.inr (mem_varsOf hv))

/-- What comes of it is ok bindings, behind those that there were. -/
theorem Uni.ok {n : Nat} {s sf : List B} {ps : List (List C × List C)} {res : Option (List B)} (h : Uni n s ps res sf) : OkB s → Prs ps → OkB sf ∧ (∃ r, sf = s ++ r) ∧ ∀ s', res = some s' → s' = sf := by
  induction h with
  | done => intro hs _; exact ⟨hs, ⟨[], by simp⟩, fun s' e => by cases e; rfl⟩
  | args _ _ hxs hys _ _ _ ih =>
    intro hs hp
    refine ih hs (fun q hq => ?_)
    rcases List.mem_append.1 hq with hq | hq
    · exact ⟨hxs _ (zip_mem hq).1, hys _ (zip_mem hq).2⟩
    · exact hp q (by simp [hq])
  | @bindL n n1 n2 s sf a b y r c res hx hy hc hne hr _ ih =>
    intro hs hp
    have hyt := hy.trm hs (hp (a, b) (by simp)).2
    obtain ⟨c', r', e1, hcb⟩ := hx.head
    simp only [List.cons.injEq] at e1
    obtain ⟨rfl, rfl⟩ := e1
    obtain ⟨h1, ⟨q, rfl⟩, h3⟩ := ih (hs.bind (hcb hc) hyt hr) (fun q hq => hp q (by simp [hq]))
    exact ⟨h1, ⟨_, List.append_assoc _ _ _⟩, h3⟩
  | ringL => intro hs _; exact ⟨hs, ⟨[], by simp⟩, fun s' e => by cases e⟩
  | @bindR n n1 n2 s sf a b x r c d res hx hy hc hd hr _ ih =>
    intro hs hp
    have hxt := hx.trm hs (hp (a, b) (by simp)).1
    obtain ⟨c', r', e1, hcb⟩ := hy.head
    simp only [List.cons.injEq] at e1
    obtain ⟨rfl, rfl⟩ := e1
    obtain ⟨h1, ⟨q, rfl⟩, h3⟩ := ih (hs.bind (hcb hc) hxt hr) (fun q hq => hp q (by simp [hq]))
    exact ⟨h1, ⟨_, List.append_assoc _ _ _⟩, h3⟩
  | ringR => intro hs _; exact ⟨hs, ⟨[], by simp⟩, fun s' e => by cases e⟩
  | apart => intro hs _; exact ⟨hs, ⟨[], by simp⟩, fun s' e => by cases e⟩
end Go.Proofs.Ytonpahhcfgdeoaa

/- The walks of the program's own look at places: isSmall, countWhile, nameOk, cellOk, cellArity. -/
namespace Go.Proofs.Ytonpahhcfgdeoaa
open Go.RowKit
set_option linter.unusedVariables false
set_option linter.unusedSimpArgs false

theorem ret_int {k : IntKind} {a b : Int} (h : a = b) : Ending.returned (.int k a) = .returned (.int k b) := by rw [h]
theorem ret_bool {a b : Bool} (h : a = b) : Ending.returned (.bool a) = .returned (.bool b) := by rw [h]

set_option maxHeartbeats 400000 in
theorem isSmall_any (c : Int) (w : World) :
    Calls Try.prog 120 #[.int .u8 c] w fun e w' => e = .returned (.bool (small c)) ∧ w' = w := by
  by_cases h1 : 97 ≤ c
  · by_cases h2 : c ≤ 122
    · go_enter Try.func120, Try.ntmps120
      go_wp2
      go_ret
      exact ⟨by simp [small, h1, h2], rfl⟩
    · go_enter Try.func120, Try.ntmps120
      go_wp2
      go_ret
      exact ⟨by simp [small]; omega, rfl⟩
  · go_enter Try.func120, Try.ntmps120
    go_wp2
    go_ret
    exact ⟨by simp [small]; omega, rfl⟩

set_option maxHeartbeats 400000 in
theorem countWhile_any (s : ByteArray) (w : World) (hs : s.size ≤ maxLen) :
    Calls Try.prog 119 #[.string s, .func (.func 120) #[] #[]] w fun e w' => e = .returned (.int .i64 (cnt s.data.toList)) ∧ w' = w := by
  unfold maxLen at hs
  have hsz : s.data.toList.length = s.size := by simp
  go_enter Try.func119, Try.ntmps119
  go_wp2
  go_loop [5] (fun i => ∃ k : Nat, k ≤ s.size ∧ i = .int .i64 k ∧ ∀ j : Nat, (h : j < s.size) → j < k → small s[j].toNat = true) (fun i => s.size - (intOf i).toNat)
  case atStart => exact ⟨0, Nat.zero_le _, rfl, fun j _ h => absurd h (Nat.not_lt_zero _)⟩
  case round =>
    obtain ⟨k, hk, rfl, hall⟩ := hrel
    have H : Hid (∀ j : Nat, (h : j < s.size) → j < k → small s[j].toNat = true) := hall
    clear hall
    by_cases hlt : k < s.size
    · by_cases hb : small s[k].toNat = true
      · go_wp2_with (go_at_call 120; refine (isSmall_any _ _).mono ?_; rintro e w' ⟨rfl, rfl⟩)
        go_round
        case rel =>
          refine ⟨k + 1, by omega, by go_num, fun j hj hjk => ?_⟩
          by_cases e : j = k
          · subst e; exact hb
          · exact H.out j hj (by omega)
        case measure => simp [intOf]; omega
      · have hb' : small s[k].toNat = false := by simpa using hb
        clear hb
        go_wp2_with (go_at_call 120; refine (isSmall_any _ _).mono ?_; rintro e w' ⟨rfl, rfl⟩)
        go_ret
        exact ⟨ret_int (by rw [cnt_stop s.data.toList k (fun j hj hjk => H.out j (by simpa using hj) hjk) (by simpa using hlt) hb']), rfl⟩
    · go_wp2
      go_ret
      exact ⟨ret_int (by rw [cnt_all s.data.toList (fun j hj => H.out j (by simpa using hj) (by simp at hj; omega))]; simp; omega), rfl⟩

theorem nameB_eq (s : ByteArray) (h1 : 1 ≤ s.size) (h2 : s.size ≤ 8) : nameB s = decide (cnt s.data.toList = s.size) := by
  have := cnt_eq_iff s.data.toList
  simp only [nameB, letters, h1, h2, decide_true, Bool.true_and]
  rw [Bool.eq_iff_iff, ← this]
  simp

theorem empty_no {s : ByteArray} (h : 1 ≤ s.size) : s.toList.isEmpty = false := by
  have hsz : s.data.toList.length = s.size := by simp
  rw [ByteArray.toList_eq]
  cases e : s.data.toList with
  | nil => have : s.data.toList.length = 0 := by rw [e]; rfl
           rw [hsz] at this; omega
  | cons a r => rfl
theorem empty_yes {s : ByteArray} (h : ¬ 1 ≤ s.size) : s.toList.isEmpty = true := by
  have hsz : s.data.toList.length = s.size := by simp
  rw [ByteArray.toList_eq]
  have : s.data.toList.length = 0 := by omega
  rw [List.length_eq_zero_iff] at this
  rw [this]; rfl

set_option maxHeartbeats 400000 in
theorem nameOk_any (s : ByteArray) (w : World) (hs : s.size ≤ maxLen) :
    Calls Try.prog 114 #[.string s] w fun e w' => e = .returned (.bool (nameB s)) ∧ w' = w := by
  by_cases h1 : 1 ≤ s.size
  · have he := empty_no h1
    by_cases h2 : s.size ≤ 8
    · have hn := nameB_eq s h1 h2
      have H : Hid (nameB s = decide (cnt s.data.toList = s.size)) := hn
      clear hn
      go_enter Try.func114, Try.ntmps114
      go_wp2_with (go_at_call 119; refine (countWhile_any _ _ hs).mono ?_; rintro e w' ⟨rfl, rfl⟩)
      go_ret
      exact ⟨ret_bool (by rw [H.out, Bool.eq_iff_iff]; simp; omega), rfl⟩
    · go_enter Try.func114, Try.ntmps114
      go_wp2
      go_ret
      exact ⟨ret_bool (by simp [nameB]; omega), rfl⟩
  · have he := empty_yes h1
    go_enter Try.func114, Try.ntmps114
    go_wp2
    go_ret
    exact ⟨ret_bool (by simp [nameB]; omega), rfl⟩

set_option maxHeartbeats 400000 in
theorem cellArity_any (c : C) (w : World) :
    Calls Try.prog 106 #[.agg #[.int .i64 c.k, .int .i64 c.n, .string c.s]] w fun e w' => e = .returned (.int .i64 (ari c)) ∧ Below w.heap.size w w' := by
  by_cases h : c.k = 3
  · have hb : (c.k == 3) = true := by simpa using h
    go_enter Try.func106, Try.ntmps106
    go_wp2
    go_ret
    exact ⟨ret_int (by simp [ari, h]), (Below.refl _ _).alloc (Nat.le_refl _) _⟩
  · have hb : (c.k == 3) = false := by simpa using h
    go_enter Try.func106, Try.ntmps106
    go_wp2
    go_ret
    exact ⟨ret_int (by simp [ari, h]), (Below.refl _ _).alloc (Nat.le_refl _) _⟩

theorem okC1 {c : C} (h : c.k = 1) : okC c = true ↔ 0 ≤ c.n ∧ c.n ≤ 99999 ∧ c.s.size = 0 := by
  unfold okC; rw [if_pos h]; simp only [Bool.and_eq_true, decide_eq_true_eq]; omega
theorem okC2 {c : C} (h : c.k = 2) : okC c = true ↔ -9999 ≤ c.n ∧ c.n ≤ 9999 ∧ c.s.size = 0 := by
  unfold okC; rw [if_neg (by omega), if_pos h]; simp only [Bool.and_eq_true, decide_eq_true_eq]; omega
theorem okC3 {c : C} (h : c.k = 3) : okC c = true ↔ 0 ≤ c.n ∧ c.n ≤ 3 ∧ nameB c.s = true := by
  unfold okC; rw [if_neg (by omega), if_neg (by omega), if_pos h]; simp only [Bool.and_eq_true, decide_eq_true_eq]; exact and_assoc
theorem okC4 {c : C} (h1 : c.k ≠ 1) (h2 : c.k ≠ 2) (h3 : c.k ≠ 3) : okC c = false := by
  unfold okC; rw [if_neg h1, if_neg h2, if_neg h3]

theorem iff_no {b : Bool} {P : Prop} (h : b = true ↔ P) (hp : ¬ P) : false = b := by
  cases b with
  | false => rfl
  | true => exact absurd (h.1 rfl) hp
theorem iff_dec {b : Bool} {P q : Prop} [Decidable q] (h : b = true ↔ P) (hp : P ↔ q) : decide q = b := by
  rw [Bool.eq_iff_iff, h, hp]; simp

theorem cell_below (w : World) (o : Obj) : Below w.heap.size w (w.alloc o) := (Below.refl _ _).alloc (Nat.le_refl _) _

set_option maxHeartbeats 1000000 in
theorem cellOk_any (c : C) (w : World) (hs : c.s.size ≤ maxLen) :
    Calls Try.prog 105 #[.agg #[.int .i64 c.k, .int .i64 c.n, .string c.s]] w fun e w' => e = .returned (.bool (okC c)) ∧ Below w.heap.size w w' := by
  by_cases h1 : c.k = 1
  · have hb : (c.k == 1) = true := by simpa using h1
    have H : Hid (okC c = true ↔ 0 ≤ c.n ∧ c.n ≤ 99999 ∧ c.s.size = 0) := okC1 h1
    clear h1
    by_cases he : 1 ≤ c.s.size
    · have hz := empty_no he
      go_enter Try.func105, Try.ntmps105
      go_wp2
      go_ret
      exact ⟨ret_bool (by first | exact iff_no H.out (by omega) | exact iff_dec H.out (by omega)), cell_below _ _⟩
    · have hz := empty_yes he
      by_cases h2 : 0 ≤ c.n
      · go_enter Try.func105, Try.ntmps105
        go_wp2
        all_goals go_ret
        all_goals exact ⟨ret_bool (by first | exact iff_no H.out (by omega) | exact iff_dec H.out (by omega)), cell_below _ _⟩
      · go_enter Try.func105, Try.ntmps105
        go_wp2
        go_ret
        exact ⟨ret_bool (by first | exact iff_no H.out (by omega) | exact iff_dec H.out (by omega)), cell_below _ _⟩
  · have hb : (c.k == 1) = false := by simpa using h1
    by_cases h2 : c.k = 2
    · have hb2 : (c.k == 2) = true := by simpa using h2
      have H : Hid (okC c = true ↔ -9999 ≤ c.n ∧ c.n ≤ 9999 ∧ c.s.size = 0) := okC2 h2
      clear h1 h2
      by_cases he : 1 ≤ c.s.size
      · have hz := empty_no he
        go_enter Try.func105, Try.ntmps105
        go_wp2
        go_ret
        exact ⟨ret_bool (by first | exact iff_no H.out (by omega) | exact iff_dec H.out (by omega)), cell_below _ _⟩
      · have hz := empty_yes he
        by_cases h2 : -9999 ≤ c.n
        · go_enter Try.func105, Try.ntmps105
          go_wp2
          all_goals go_ret
          all_goals exact ⟨ret_bool (by first | exact iff_no H.out (by omega) | exact iff_dec H.out (by omega)), cell_below _ _⟩
        · go_enter Try.func105, Try.ntmps105
          go_wp2
          go_ret
          exact ⟨ret_bool (by first | exact iff_no H.out (by omega) | exact iff_dec H.out (by omega)), cell_below _ _⟩
    · have hb2 : (c.k == 2) = false := by simpa using h2
      by_cases h3 : c.k = 3
      · have hb3 : (c.k == 3) = true := by simpa using h3
        have H : Hid (okC c = true ↔ 0 ≤ c.n ∧ c.n ≤ 3 ∧ nameB c.s = true) := okC3 h3
        clear h1 h2 h3
        cases hn : nameB c.s with
        | false =>
          go_enter Try.func105, Try.ntmps105
          go_wp2_with (go_at_call 114; refine (nameOk_any _ _ hs).mono ?_; rintro e w' ⟨rfl, rfl⟩)
          go_ret
          exact ⟨ret_bool (iff_no H.out (by simp [hn])), cell_below _ _⟩
        | true =>
          by_cases h2 : 0 ≤ c.n
          · go_enter Try.func105, Try.ntmps105
            go_wp2_with (go_at_call 114; refine (nameOk_any _ _ hs).mono ?_; rintro e w' ⟨rfl, rfl⟩)
            all_goals go_ret
            all_goals exact ⟨ret_bool (by first | exact iff_no H.out (by simp only [hn, and_true]; omega) | exact iff_dec H.out (by simp only [hn, and_true]; omega)), cell_below _ _⟩
          · go_enter Try.func105, Try.ntmps105
            go_wp2_with (go_at_call 114; refine (nameOk_any _ _ hs).mono ?_; rintro e w' ⟨rfl, rfl⟩)
            all_goals go_ret
            all_goals exact ⟨ret_bool (by first | exact iff_no H.out (by simp only [hn, and_true]; omega) | exact iff_dec H.out (by simp only [hn, and_true]; omega)), cell_below _ _⟩
      · have hb3 : (c.k == 3) = false := by simpa using h3
        have H : Hid (okC c = false) := okC4 h1 h2 h3
        clear h1 h2 h3
        go_enter Try.func105, Try.ntmps105
        go_wp2
        go_ret
        exact ⟨ret_bool (by rw [H.out]), cell_below _ _⟩
end Go.Proofs.Ytonpahhcfgdeoaa
