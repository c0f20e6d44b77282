import Derived.Test.YtonpahhcfgdeoaaQW7W18T5BR1BG1
import Derived.Test.YtonpahhcfgdeoaaQT3Plain2T4
import Derived.Deep.RegionHeld3
import Derived.Deep.QuietTactic
import Derived.BigQuiet
/- What TrmShift is of places: the plain part. -/
namespace Go.Proofs.Ytonpahhcfgdeoaa
open Go.RowKit Go.Shelf
set_option linter.unusedVariables false
set_option linter.unusedSimpArgs false

def shiftC (n : Int) (c : C) : C := if c.k = 1 then ⟨c.k, c.n + n, c.s⟩ else c

/-- What TrmShift is of places. -/
def shiftOf (t : List C) (n : Int) : List C := if trm t = true ∧ 0 ≤ n ∧ n ≤ 99999 then listed (t.map (shiftC n)) else []

theorem shiftOf_no {t : List C} {n : Int} (h : trm t = false) : shiftOf t n = [] := by simp [shiftOf, h]
theorem shiftOf_out {t : List C} {n : Int} (h : n < 0 ∨ 99999 < n) : shiftOf t n = [] := by
  unfold shiftOf; rw [if_neg (fun h' => by omega)]
theorem shiftOf_in {t : List C} {n : Int} (h : trm t = true) (h0 : 0 ≤ n) (h1 : n ≤ 99999) : shiftOf t n = listed (t.map (shiftC n)) := by
  unfold shiftOf; rw [if_pos ⟨h, h0, h1⟩]
theorem listed_len (t : List C) : (listed t).length ≤ t.length := by unfold listed; split <;> simp
theorem shiftOf_len (t : List C) (n : Int) : (shiftOf t n).length ≤ t.length := by
  unfold shiftOf; split
  · have := listed_len (t.map (shiftC n)); simpa using this
  · simp
theorem shiftC_ari (n : Int) (c : C) : ari (shiftC n c) = ari c := by unfold shiftC ari; split <;> simp_all
theorem shiftC_k (n : Int) (c : C) : (shiftC n c).k = c.k := by unfold shiftC; split <;> rfl
theorem shiftC_s (n : Int) (c : C) : (shiftC n c).s = c.s := by unfold shiftC; split <;> rfl
end Go.Proofs.Ytonpahhcfgdeoaa

/- The walk of shifted: a tree anew, with its variables so many on. -/
namespace Go.Proofs.Ytonpahhcfgdeoaa
open Go.RowKit Go.Shelf
set_option linter.unusedVariables false
set_option linter.unusedSimpArgs false
attribute [-go_sem] Go.Builtin.append_

theorem Node.setN {W : World} {p : Nat} {c : C} {v : Value} (x : Int) (h : Node W p c v) : Node (W.setCell ⟨p, 1, none⟩ (.int .i64 x)) p ⟨c.k, x, c.s⟩ v := by
  obtain ⟨hlt, hk⟩ := Array.getElem?_eq_some_iff.1 h
  show (W.heap.modify p _)[p]? = _
  rw [Array.getElem?_eq_getElem (by rw [Array.size_modify]; exact hlt), Array.getElem_modify_self, hk]
  rfl
theorem Node.frozenN {W : World} {p : Nat} {c : C} {v : Value} (h : Node W p c v) : W.frozen? ⟨p, 1, none⟩ = false := by simp [World.frozen?, show W.heap[p]? = _ from h]
theorem Kids.drew {w : World} {f : Nat} {c : C} {ks : List (List C)} {k : Nat} {v : Value} {zs : List (Nat × List (Nat × C))} {wr : World} (h : Kids w f c ks k v zs wr) : Kids w f c ks k v zs wr.drew := by
  obtain ⟨h1, h2, h3, h4, h5, h6, h7⟩ := h
  exact ⟨h1, h2, h3, h4, fun x hx => Tre.kept (S := Fr (w.heap.size + 1) wr.heap.size w.heap.size v) (W := wr) (W' := wr.drew) (fun _ h => h) (fun _ _ => rfl) (h5 x hx), h6, h7.drew⟩

/-- What shifted hands back. -/
def GotS (n : Int) (w : World) (f : Nat) (z : List (Nat × C)) (e : Ending) (w' : World) : Prop := ∃ q z', e = .returned (.pointer (some ⟨q, 0, none⟩)) ∧ z'.map (·.2) = z.map (fun x => shiftC n x.2) ∧ (z'.map (·.1)).Nodup ∧
  Tre (fun b => w.heap.size ≤ b ∧ b < w'.heap.size) w' f q z' ∧ Below w.heap.size w w'

set_option maxRecDepth 100000 in
set_option maxHeartbeats 4000000 in
theorem shifted_any (n : Int) (hn0 : 0 ≤ n) (hn1 : n ≤ 99999) : ∀ (f : Nat) (S : Nat → Prop) (p : Nat) (z : List (Nat × C)) (w : World), Tre S w f p z → (∀ x ∈ z, okC x.2 = true) → (∀ b, S b → b < w.heap.size) →
      Calls Try.prog 69 #[.pointer (some ⟨p, 0, none⟩), .int .i64 n] w (GotS n w f z)
  | 0, _, _, _, _, h, _, _ => h.elim
  | f + 1, S, p, z, w, hT, hok, hS => by
    have ih := shifted_any n hn0 hn1 f S
    obtain ⟨c, ks, ao, cap, rfl, hp, ⟨hk3, hkl⟩, hN, hrow, hks⟩ := hT
    obtain ⟨c0, c1, c2⟩ := hN.cells
    have c3 := hN.cell
    have hpl := hN.lt
    have hokc := hok (p, c) (by simp)
    have HOK := hide hok
    have HKS := hide hks
    have HIH := hide ih
    have HS := hide hS
    have HKL := hide hkl
    have HROW := hide hrow
    have hnum : c.k = 1 → c.n + n ≤ 199998 ∧ 0 ≤ c.n + n := fun h1 => by
      have := (okC1 h1).1 hokc
      omega
    have HNN := hide hN
    clear hok hks ih hS hkl hrow hokc hN
    obtain ⟨i0, hi, hz0, hz1, hz2⟩ := info_parts (show (Try.prog.info? 69).map (fun i => (i.zero, i.size, i.bytes)) = some (some (.pointer none), 1, 8) by kernel_rfl)
    have hb0 : Below w.heap.size w (w.alloc (.cells #[.int .i64 c.k, .int .i64 c.n, .string c.s, .slice none 0 0] 95)) := (Below.refl _ w).alloc (Nat.le_refl _) _
    have hn0' : Node (w.alloc (.cells #[.int .i64 c.k, .int .i64 c.n, .string c.s, .slice none 0 0] 95)) w.heap.size c (.slice none 0 0) := World.alloc_heap_new w _
    have d0 := (hb0.cell (p := ⟨p, 0, none⟩) hpl).trans c0
    have d3 := (hb0.cell (p := ⟨p, 3, none⟩) hpl).trans c3
    have e1 := hn0'.cells.2.1
    have f1 := hn0'.frozenN
    go_enter Try.func69, Try.ntmps69
    obtain ⟨kl, hkle⟩ : ∃ kl : List (List C), kl = ks.map (fun k => k.2.map (fun x => shiftC n x.2)) := ⟨_, rfl⟩
    have hkll : kl.length = ks.length := by rw [hkle, List.length_map]
    have HKE := hide hkle
    clear hkle
    by_cases hk1 : c.k = 1
    · have hk1b : (c.k == 1) = true := by simpa using hk1
      have hnn := hnum hk1
      have hB0 : Below w.heap.size w (w.alloc (.cells #[.int .i64 c.k, .int .i64 (c.n + n), .string c.s, .slice none 0 0] 95)) := (Below.refl _ w).alloc (Nat.le_refl _) _
      have hN0 : Node (w.alloc (.cells #[.int .i64 c.k, .int .i64 (c.n + n), .string c.s, .slice none 0 0] 95)) w.heap.size (shiftC n c) (.slice none 0 0) := by
        have : shiftC n c = ⟨c.k, c.n + n, c.s⟩ := by unfold shiftC; rw [if_pos hk1]
        rw [this]
        exact World.alloc_heap_new w _
      have g3 := (hB0.cell (p := ⟨p, 3, none⟩) hpl).trans c3
      clear hk1 hnum hn0'
      go_wp2
      generalize (w.alloc (.cells #[.int .i64 c.k, .int .i64 (c.n + n), .string c.s, .slice none 0 0] 95)) = w0 at hB0 hN0 g3 ⊢
      have hK1 : Kids w f (shiftC n c) kl 0 (.slice none 0 0) [] w0 := ⟨by simp, rfl, hN0, World.ownsRow_nil _ _ _ _, by simp, by simp, hB0⟩
      clear hN0
      go_wp2
      go_loopw [35] (fun i wr => ∃ (k : Nat) (v : Value) (zs : List (Nat × List (Nat × C))), k ≤ ks.length ∧ i = .int .i64 k ∧ Kids w f (shiftC n c) kl k v zs wr) (fun i _ => ks.length - (intOf i).toNat)
      case atStart => exact ⟨0, _, [], Nat.zero_le _, rfl, hK1⟩
      case round =>
        clear hK1
        obtain ⟨k, v, zs, hk, rfl, hK⟩ := hrel
        by_cases hlt : k < ks.length
        · have hBr := hK.2.2.2.2.2.2
          have hsz := hBr.size
          have hNr := hK.2.2.1
          have hPl := hNr.lt
          have cr3 := hNr.cell
          obtain ⟨q, rfl, hSq, hcell⟩ := (unhide HROW).resolve_left (fun e => by rw [e] at hlt; simp at hlt)
          have hck := (hBr.cell (p := ⟨q, k, none⟩) (unhide HS q hSq)).trans (hcell k hlt)
          have hsub : Tre S wr.drew f ks[k].1 ks[k].2 := (unhide HKS _ (List.getElem_mem hlt)).kept (W' := wr.drew) (fun _ h => h) (fun b hb => hBr.block b (unhide HS b hb))
          have HI := hide (unhide HIH ks[k].1 ks[k].2 wr.drew hsub (fun x hx => unhide HOK x (by simp; exact .inr ⟨ks[k].2, ⟨ks[k].1, List.getElem_mem hlt⟩, hx⟩)) (fun b hb => Nat.lt_of_lt_of_le (unhide HS b hb) hsz))
          have hlt2 : k < kl.length := by omega
          have hkz : kl[k]'hlt2 = ks[k].2.map (fun x => shiftC n x.2) := by
            have h1 : kl[k]? = some (ks[k].2.map (fun x => shiftC n x.2)) := by rw [unhide HKE, List.getElem?_map, List.getElem?_eq_getElem hlt]; rfl
            rw [List.getElem?_eq_getElem hlt2] at h1
            exact Option.some.inj h1
          have HKZ := hide hkz
          have HK := hide hK.drew
          have HN := hide hNr
          have HO := hide hK.2.2.2.1
          clear hK hNr hsub hcell hkz
          generalize ks[k].1 = pk at hck HI
          generalize ks[k].2 = zk at HI HKZ
          go_wp2
          go_region_with (first
            | (go_at_call 69; refine (unhide HI).mono ?_; clear HI; rintro e w2 ⟨pn, zn, rfl, hz, hnd, hT, hb2⟩; have hq := hide (hz.trans (unhide HKZ).symm); have hq2 := hide hnd; have hq3 := hide hT; clear hz hnd hT; have hsz2 := hb2.size; have hc3 : w2.cell? ⟨w.heap.size, 3, none⟩ = some v := Node.cell ((hb2.block _ hPl).trans (unhide HN)); have hPl2 : w.heap.size < w2.heap.size := Nat.lt_of_lt_of_le hPl hsz2; have hc3a : (w2.alloc (.cells #[.pointer (some ⟨pn, 0, none⟩)] 69)).cell? ⟨w.heap.size, 3, none⟩ = some v := ((cell_below w2 (.cells #[.pointer (some ⟨pn, 0, none⟩)] 69)).cell (p := ⟨w.heap.size, 3, none⟩) hPl2).trans hc3; obtain ⟨g', cap', w3, hr, hown', hgrow, hat, hgl⟩ := run_append_lies (P := Try.prog) (w2.alloc (.cells #[.pointer (some ⟨pn, 0, none⟩)] 69)) 93 93 w.heap.size 69 i0 _ 1 8 Try.underlying93 hi hz0 hz1 hz2 rfl (by decide) v k _ (World.ownsRow.alloc (own_below (w := wr.drew) (by exact unhide HO) hb2) _) ⟨w2.heap.size, 0, none⟩ 1 1 [.pointer (some ⟨pn, 0, none⟩)] rfl (cell_one_new w2 _ _) (by simp [Value.oneCell']) (by omega) (by unfold maxLen; omega) (by omega) (by simp at hsz2 ⊢; omega) _ rfl; have hr' : Sem.run Try.prog (Builtin.append_ #[93, 93] 93 #[v, .slice (some ⟨w2.heap.size, 0, none⟩) 1 1]) (w2.alloc (.cells #[.pointer (some ⟨pn, 0, none⟩)] 69)) = .ok (.slice (some ⟨g', 0, none⟩) (k + 1) cap') w3 := hr; clear hr; have hn3 := kids_node (unhide HK) hb2 hgrow; have hs3 := hn3.cell; have hf3 := hn3.frozen; have HST := hide (kids_step (unhide HK) hlt2 hb2 (unhide hq3) (unhide hq) (unhide hq2) hown' hgrow (by simpa using hat)); clear hn3 hown' hgrow hat hgl))
          all_goals go_wp2
          all_goals go_roundw
          all_goals first | exact ⟨k + 1, _, _, by omega, by go_num, (unhide HST).1⟩ | (simp [intOf]; omega)
        · have e : k = kl.length := by omega
          subst e
          obtain ⟨z', hz, hnd, hT⟩ := kids_end hK (by omega) (by rw [shiftC_ari, ← unhide HKL]; omega)
          have hBr := hK.2.2.2.2.2.2
          go_wp2
          go_ret
          refine ⟨_, z', rfl, ?_, hnd, hT, hBr⟩
          rw [hz, unhide HKE]
          simp [List.map_flatten, List.map_map, Function.comp_def]
    · have hk1b : (c.k == 1) = false := by simpa using hk1
      have hN0 : Node (w.alloc (.cells #[.int .i64 c.k, .int .i64 c.n, .string c.s, .slice none 0 0] 95)) w.heap.size (shiftC n c) (.slice none 0 0) := by
        unfold shiftC
        rw [if_neg hk1]
        exact hn0'
      have hB0 := hb0
      have g3 := d3
      clear hk1 hnum hn0' hb0
      go_wp2
      generalize (w.alloc (.cells #[.int .i64 c.k, .int .i64 c.n, .string c.s, .slice none 0 0] 95)) = w0 at hB0 hN0 g3 d0 d3 e1 f1 ⊢
      have hK1 : Kids w f (shiftC n c) kl 0 (.slice none 0 0) [] w0 := ⟨by simp, rfl, hN0, World.ownsRow_nil _ _ _ _, by simp, by simp, hB0⟩
      clear hN0
      go_wp2
      go_loopw [35] (fun i wr => ∃ (k : Nat) (v : Value) (zs : List (Nat × List (Nat × C))), k ≤ ks.length ∧ i = .int .i64 k ∧ Kids w f (shiftC n c) kl k v zs wr) (fun i _ => ks.length - (intOf i).toNat)
      case atStart => exact ⟨0, _, [], Nat.zero_le _, rfl, hK1⟩
      case round =>
        clear hK1
        obtain ⟨k, v, zs, hk, rfl, hK⟩ := hrel
        by_cases hlt : k < ks.length
        · have hBr := hK.2.2.2.2.2.2
          have hsz := hBr.size
          have hNr := hK.2.2.1
          have hPl := hNr.lt
          have cr3 := hNr.cell
          obtain ⟨q, rfl, hSq, hcell⟩ := (unhide HROW).resolve_left (fun e => by rw [e] at hlt; simp at hlt)
          have hck := (hBr.cell (p := ⟨q, k, none⟩) (unhide HS q hSq)).trans (hcell k hlt)
          have hsub : Tre S wr.drew f ks[k].1 ks[k].2 := (unhide HKS _ (List.getElem_mem hlt)).kept (W' := wr.drew) (fun _ h => h) (fun b hb => hBr.block b (unhide HS b hb))
          have HI := hide (unhide HIH ks[k].1 ks[k].2 wr.drew hsub (fun x hx => unhide HOK x (by simp; exact .inr ⟨ks[k].2, ⟨ks[k].1, List.getElem_mem hlt⟩, hx⟩)) (fun b hb => Nat.lt_of_lt_of_le (unhide HS b hb) hsz))
          have hlt2 : k < kl.length := by omega
          have hkz : kl[k]'hlt2 = ks[k].2.map (fun x => shiftC n x.2) := by
            have h1 : kl[k]? = some (ks[k].2.map (fun x => shiftC n x.2)) := by rw [unhide HKE, List.getElem?_map, List.getElem?_eq_getElem hlt]; rfl
            rw [List.getElem?_eq_getElem hlt2] at h1
            exact Option.some.inj h1
          have HKZ := hide hkz
          have HK := hide hK.drew
          have HN := hide hNr
          have HO := hide hK.2.2.2.1
          clear hK hNr hsub hcell hkz
          generalize ks[k].1 = pk at hck HI
          generalize ks[k].2 = zk at HI HKZ
          go_wp2
          go_region_with (first
            | (go_at_call 69; refine (unhide HI).mono ?_; clear HI; rintro e w2 ⟨pn, zn, rfl, hz, hnd, hT, hb2⟩; have hq := hide (hz.trans (unhide HKZ).symm); have hq2 := hide hnd; have hq3 := hide hT; clear hz hnd hT; have hsz2 := hb2.size; have hc3 : w2.cell? ⟨w.heap.size, 3, none⟩ = some v := Node.cell ((hb2.block _ hPl).trans (unhide HN)); have hPl2 : w.heap.size < w2.heap.size := Nat.lt_of_lt_of_le hPl hsz2; have hc3a : (w2.alloc (.cells #[.pointer (some ⟨pn, 0, none⟩)] 69)).cell? ⟨w.heap.size, 3, none⟩ = some v := ((cell_below w2 (.cells #[.pointer (some ⟨pn, 0, none⟩)] 69)).cell (p := ⟨w.heap.size, 3, none⟩) hPl2).trans hc3; obtain ⟨g', cap', w3, hr, hown', hgrow, hat, hgl⟩ := run_append_lies (P := Try.prog) (w2.alloc (.cells #[.pointer (some ⟨pn, 0, none⟩)] 69)) 93 93 w.heap.size 69 i0 _ 1 8 Try.underlying93 hi hz0 hz1 hz2 rfl (by decide) v k _ (World.ownsRow.alloc (own_below (w := wr.drew) (by exact unhide HO) hb2) _) ⟨w2.heap.size, 0, none⟩ 1 1 [.pointer (some ⟨pn, 0, none⟩)] rfl (cell_one_new w2 _ _) (by simp [Value.oneCell']) (by omega) (by unfold maxLen; omega) (by omega) (by simp at hsz2 ⊢; omega) _ rfl; have hr' : Sem.run Try.prog (Builtin.append_ #[93, 93] 93 #[v, .slice (some ⟨w2.heap.size, 0, none⟩) 1 1]) (w2.alloc (.cells #[.pointer (some ⟨pn, 0, none⟩)] 69)) = .ok (.slice (some ⟨g', 0, none⟩) (k + 1) cap') w3 := hr; clear hr; have hn3 := kids_node (unhide HK) hb2 hgrow; have hs3 := hn3.cell; have hf3 := hn3.frozen; have HST := hide (kids_step (unhide HK) hlt2 hb2 (unhide hq3) (unhide hq) (unhide hq2) hown' hgrow (by simpa using hat)); clear hn3 hown' hgrow hat hgl))
          all_goals go_wp2
          all_goals go_roundw
          all_goals first | exact ⟨k + 1, _, _, by omega, by go_num, (unhide HST).1⟩ | (simp [intOf]; omega)
        · have e : k = kl.length := by omega
          subst e
          obtain ⟨z', hz, hnd, hT⟩ := kids_end hK (by omega) (by rw [shiftC_ari, ← unhide HKL]; omega)
          have hBr := hK.2.2.2.2.2.2
          go_wp2
          go_ret
          refine ⟨_, z', rfl, ?_, hnd, hT, hBr⟩
          rw [hz, unhide HKE]
          simp [List.map_flatten, List.map_map, Function.comp_def]
end Go.Proofs.Ytonpahhcfgdeoaa
