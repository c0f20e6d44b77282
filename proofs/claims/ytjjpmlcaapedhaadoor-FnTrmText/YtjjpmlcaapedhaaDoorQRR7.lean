/- The program's TrmRead. -/
import Derived.Test.YtjjpmlcaapedhaaDoorQRR6
import Derived.Test.YtjjpmlcaapedhaaDoorQD5
namespace Go.Proofs.YtjjpmlcaapedhaaDoor
open Go.RowKit Go.Shelf
set_option linter.unusedVariables false
set_option linter.unusedSimpArgs false

theorem rdNum_len {s r : List UInt8} {v : Int} (h : rdNum s = some (v, r)) : r.length ≤ s.length := by
  have := congrArg List.length (rdNum_back h).2
  rw [List.length_append] at this
  omega
theorem rdWord_fit {s r : List UInt8} {c : C} (h : rdWord s = some (c, r)) : c.s.size ≤ s.length ∧ r.length ≤ s.length := by
  have hb := congrArg List.length (rdWord_back h).1
  rw [List.length_append] at hb
  refine ⟨?_, by omega⟩
  cases s with
  | nil => cases h
  | cons b s =>
    rw [rdWord_cons] at h
    have h0 : (ByteArray.empty).size ≤ (b :: s).length := by simp
    split at h
    · split at h
      · injection h with h; injection h with h1 h2; subst h1; exact h0
      · cases h
    · split at h
      · split at h
        · split at h
          · cases h
          · injection h with h; injection h with h1 h2; subst h1; exact h0
        · cases h
      · split at h
        · split at h
          · injection h with h; injection h with h1 h2; subst h1; exact h0
          · cases h
        · injection h with h; injection h with h1 h2; subst h1
          have h3 : ((b :: s).takeWhile sml).length ≤ (b :: s).length := (tw_take sml (b :: s)).2.2
          have h4 : (⟨((b :: s).takeWhile sml).toArray⟩ : ByteArray).size = ((b :: s).takeWhile sml).length := by rw [← bl_size, bl_mk]
          show (⟨((b :: s).takeWhile sml).toArray⟩ : ByteArray).size ≤ _
          omega

theorem rt_fit : ∀ f, (∀ s t r g, rtT f s = some (t, r, g) → ∀ c ∈ t, c.s.size ≤ s.length) ∧ (∀ s ks r g, rtA f s = some (ks, r, g) → ∀ c ∈ ks.flatten, c.s.size ≤ s.length) := by
  intro f
  induction f using Nat.strongRecOn with
  | _ f ih =>
    have hT : ∀ s t r g, rtT f s = some (t, r, g) → ∀ c ∈ t, c.s.size ≤ s.length := by
      intro s t r g h c hc
      cases f with
      | zero => rw [rtT] at h; cases h
      | succ f =>
        rw [rtT] at h
        split at h
        · cases h
        · rename_i c1 r1 hw
          obtain ⟨w1, w2⟩ := rdWord_fit hw
          split at h
          · rename_i hc3
            split at h
            · cases h
            · rename_i ks r2 g2 ha
              injection h with h; injection h with h1 h2
              subst h1
              rcases List.mem_cons.1 hc with rfl | hc
              · exact w1
              · have := (ih f (by omega)).2 _ _ _ _ ha c hc
                rw [List.length_tail] at this
                omega
          · injection h with h; injection h with h1 h2
            subst h1
            simp only [List.mem_singleton] at hc
            subst hc
            exact w1
    refine ⟨hT, fun s ks r g h c hc => ?_⟩
    rw [rtA] at h
    split at h
    · cases h
    · rename_i t r1 g1 ht
      have hb := congrArg List.length (((rt_back f).1 _ _ _ _ ht).2.2).choose_spec.2
      rw [List.length_append] at hb
      split at h
      · injection h with h; injection h with a1 a2
        subst a1
        simp only [List.flatten_cons, List.flatten_nil, List.append_nil] at hc
        exact hT _ _ _ _ ht c hc
      · split at h
        · rename_i hx
          split at h
          · cases h
          · rename_i ks2 r2 g2 ha
            injection h with h; injection h with a1 a2
            subst a1
            rw [List.flatten_cons, List.mem_append] at hc
            rcases hc with hc | hc
            · exact hT _ _ _ _ ht c hc
            · have := (ih g1 hx.2).2 _ _ _ _ ha c hc
              rw [List.length_tail] at this
              omega
        · cases h

/-- The two errors of the library lie there. -/
def ErrG (w : World) : Prop := (∃ ev, w.cell? ⟨0, 0, none⟩ = some ev ∧ (ev = .nilIface ∨ ∃ te pe, ev = .iface te pe)) ∧ (∃ ev, w.cell? ⟨1, 0, none⟩ = some ev ∧ (ev = .nilIface ∨ ∃ te pe, ev = .iface te pe))
theorem ErrG.below {w w' : World} (h : ErrG w) (hb : Below w.heap.size w w') : ErrG w' := by
  obtain ⟨⟨e1, c1, h1⟩, ⟨e2, c2, h2⟩⟩ := h
  exact ⟨⟨e1, (hb.cell (p := ⟨_, 0, none⟩) (World.block_lt_of_cell? w ⟨_, _, none⟩ c1)).trans c1, h1⟩, ⟨e2, (hb.cell (p := ⟨_, 0, none⟩) (World.block_lt_of_cell? w ⟨_, _, none⟩ c2)).trans c2, h2⟩⟩

theorem rdX_none {l : List UInt8} (h : rtT 40 l = none) : rdX l = none := by unfold rdX; rw [h]
theorem rdX_some {l r : List UInt8} {t : List C} {g : Nat} (h : rtT 40 l = some (t, r, g)) : rdX l = if r = [] ∧ trm t = true then some t else none := by
  unfold rdX
  rw [h]
  cases r with
  | nil => simp
  | cons b r => simp

def ReadOut (l : List UInt8) (w : World) (e : Ending) (w' : World) : Prop := ∃ v, e = .returned (.tuple #[v, .bool (rdX l).isSome]) ∧ OwnC w' w.heap.size v ((rdX l).getD []) ∧ Below w.heap.size w w'
theorem read_none {l : List UInt8} {w w' : World} (h : rdX l = none) (hb : Below w.heap.size w w') : ReadOut l w (.returned (.tuple #[.slice none 0 0, .bool false])) w' := by
  refine ⟨_, by rw [h]; rfl, ?_, hb⟩
  rw [h]
  exact World.ownsRow_nil _ _ _ _

set_option maxRecDepth 100000 in
set_option maxHeartbeats 4000000 in
theorem implTrmRead_any (l : List UInt8) (w : World) (hl : l.length ≤ 1000000000) (hE : ErrG w) (hT : TenT w) :
    Calls Tryd.prog 7 #[.string (mkS l)] w (ReadOut l w) := by
  obtain ⟨w0, hw0⟩ : ∃ w0, w0 = w.alloc (.cells #[.string (mkS l), .int .i64 0] 43) := ⟨_, rfl⟩
  have hb0 : Below w.heap.size w w0 := by rw [hw0]; exact cell_below _ _
  have hR0 : Rst w0 w.heap.size l (40 - ((40 : Nat) : Int)) := ⟨by rw [hw0]; exact World.alloc_heap_new w _⟩
  have hEn : Env w.heap.size w0 := by
    have hE0 := hE.below hb0
    obtain ⟨⟨e1, c1, h1⟩, ⟨e2, c2, h2⟩⟩ := hE
    refine ⟨⟨hE0.1, hE0.2, ?_, ?_⟩, fun w' hg => hT.below (hb0.grown hg hb0.size (fun k e => by cases e; exact Nat.le_refl _))⟩
    · have := World.block_lt_of_cell? w ⟨_, _, none⟩ c1
      exact Nat.ne_of_lt this
    · have := World.block_lt_of_cell? w ⟨_, _, none⟩ c2
      exact Nat.ne_of_lt this
  have HT := hide (term_all w.heap.size 40 (Nat.le_refl _) w0 l hR0 hl hEn)
  clear hR0 hEn hE hT
  go_enter Tryd.func7, Tryd.ntmps7
  go_wp2_with fail
  rw [← hw0]
  clear hw0
  cases ho : rtT 40 l with
  | none =>
    rw [ho] at HT
    have HN := hide (rdX_none ho)
    clear ho
    refine (unhide HT).mono ?_
    rintro e w1 ⟨hg1, rfl⟩
    have hb1 := hb0.grown hg1 hb0.size (fun k e => by cases e; exact Nat.le_refl _)
    clear HT
    go_wp2
    go_ret2
    exact read_none (unhide HN) hb1
  | some x =>
    obtain ⟨t, r, g⟩ := x
    have hfit := (rt_fit 40).1 _ _ _ _ ho
    obtain ⟨hgt, _, _⟩ := (rt_back 40).1 _ _ _ _ ho
    have HX := hide (rdX_some ho)
    rw [ho] at HT
    clear ho
    refine (unhide HT).mono ?_
    rintro e w1 ⟨hg1, q, z, rfl, hz, hTr, hR1⟩
    have hb1 := hb0.grown hg1 hb0.size (fun k e => by cases e; exact Nat.le_refl _)
    have c0 := hR1.c0
    clear HT hg1 hR1
    cases r with
    | cons b r =>
      have hne : (mkS (b :: r)).toList.isEmpty = false := by rw [ByteArray.toList_eq]; simp [mkS]
      have HN := hide (show rdX l = none from by rw [unhide HX, if_neg (by simp)])
      clear HX hTr
      go_wp2
      go_ret2
      exact read_none (unhide HN) hb1
    | nil =>
      have hne : (mkS []).toList.isEmpty = true := by rw [ByteArray.toList_eq]; rfl
      obtain ⟨hS, hH⟩ := hTr.shp (n₀ := w1.heap.size) (fun b hb => hb.2)
      have hzl : z.length ≤ 1048576 := by have := congrArg List.length hz; rw [List.length_map] at this; omega
      have HL := hide (list_any2 40 q z t hz w1 hS hH hzl (fun c hc => by have := hfit c hc; unfold maxLen; omega))
      clear hTr hz hS hH hzl hfit
      go_wp2_with fail
      refine (unhide HL).mono ?_
      rintro e w2 ⟨v, rfl, hO, hnil, hb2⟩
      have hB2 := bstep hb1 hb2
      have hO' := OwnC.base hO hb1.size
      clear HL
      cases hok : trm t with
      | false =>
        have hv := hnil hok
        subst hv
        have HN := hide (show rdX l = none from by rw [unhide HX, if_neg (by rw [hok]; simp)])
        clear hO hO' HX hnil
        go_wp2
        go_ret2
        exact read_none (unhide HN) hB2
      | true =>
        have hx : rdX l = some t := by rw [unhide HX, if_pos (by simp [hok])]
        have hlen := ((trm_iff t).1 hok).1
        unfold listed at hO'
        rw [if_pos hok] at hO'
        obtain ⟨gg, cp, rfl, _⟩ := own_some hO' hlen
        have FIN : Hid (ReadOut l w (.returned (.tuple #[.slice (some ⟨gg, 0, none⟩) t.length cp, .bool true])) w2) := ⟨_, by rw [hx]; rfl, by rw [hx]; exact hO', hB2⟩
        clear hO hO' HX hnil hx
        go_wp2
        go_ret2
        exact unhide FIN
end Go.Proofs.YtjjpmlcaapedhaaDoor
