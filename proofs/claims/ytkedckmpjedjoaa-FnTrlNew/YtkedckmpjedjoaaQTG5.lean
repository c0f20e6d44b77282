/- A program told in new memory. -/
import Derived.Test.YtkedckmpjedjoaaQTG4
import Derived.WalkSpells
namespace Go.Proofs.Ytkedckmpjedjoaa
open Go.RowKit Go.Shelf
set_option linter.unusedVariables false
set_option linter.unusedSimpArgs false
attribute [-go_sem] Go.Builtin.append_

theorem nilPlaces (w : World) (a : Option Addr) (n c : Nat) : (binOp .eql 28 (.slice a n c) (.slice none 0 0)).run Try.prog w = .ok (.bool a.isNone) w := Lib.run_eql_slice_nil w _ _ a n c 0 0 Try.underlying28
theorem flatPc_one : ∀ (ps : List Pc), ∀ u ∈ flatPc ps, u.oneCell' = true
  | [], u, h => by cases h
  | y :: r, u, h => by
      simp only [flatPc, List.mem_cons] at h
      rcases h with rfl | rfl | rfl | h
      · rfl
      · rfl
      · rfl
      · exact flatPc_one r u h

set_option maxRecDepth 100000 in
set_option maxHeartbeats 1000000 in
theorem clonePlaces_any (base : Nat) (v : Value) (ps : List Pc) (w : World) (hm : ps.length ≤ 1048576) (hO : w.ownsRow base 144 3 v ps.length (flatPc ps)) :
    Calls Try.prog 106 #[v] w fun e w' => ∃ ao cap, e = .returned (.slice ao ps.length cap) ∧ SegP w.heap.size w'.heap.size w' (.slice ao ps.length cap) ps ∧ Below w.heap.size w w' := by
  have hq := nilPlaces
  obtain ⟨i0, hi, hz0, hz1, hz2⟩ := info_parts Try.infoP
  rcases hO.2 with ⟨rfl, hn⟩ | ⟨g, cap, cur, rfl, hg⟩
  · have hp : ps = [] := List.length_eq_zero_iff.1 hn
    subst hp
    go_enter Try.func106, Try.ntmps106
    go_wp2
    go_ret
    exact ⟨none, 0, rfl, ⟨World.ownsRow_nil _ _ _ _, fun b e => by simp [Value.ownBlock] at e⟩, Below.refl _ _⟩
  · have hO1 := World.ownsRow.alloc hO (.cells #[] 144)
    have hnews : ∀ (j : Nat) (u : Value), (flatPc ps)[j]? = some u → (w.alloc (.cells #[] 144)).cell? ((⟨g, 0, none⟩ : Addr).add j) = some u := fun j u hj => by
      have e : (⟨g, 0, none⟩ : Addr).add j = ⟨g, j, none⟩ := by cases j <;> simp [Addr.add]
      have hlt : j < ps.length * 3 := by
        have := (List.getElem?_eq_some_iff.1 hj).1
        rwa [flatPc_length] at this
      rw [e, hO1.cellAt j hlt]
      exact hj
    clear hO hO1 hg
    go_enter Try.func106, Try.ntmps106
    go_wp2_with (at_builtin; refine wpList_append_own _ rfl _ _ 28 rfl w.heap.size 144 i0 _ 3 32 Try.underlying28 hi hz0 hz1 hz2 rfl (by decide) _ _ _ rfl (World.ownsRow_made w #[] 0 (Nat.le_refl _) (by simp [maxLen]) rfl) ⟨g, 0, none⟩ ps.length cap (flatPc ps) rfl (flatPc_length ps) hnews (flatPc_one ps) ?s3 ?s4 ?s5 ?_)
    case s3 => unfold maxLen; omega
    case s4 => omega
    case s5 => simp
    intro v1 w1 ho1 hG1 _
    have hO1 : w1.ownsRow w.heap.size 144 3 v1 ps.length (flatPc ps) := by simpa using ho1
    have hB1 : Below w.heap.size w w1 := ((Below.refl _ w).alloc (Nat.le_refl _) _).grown hG1 (by simp) (fun k e => by simp [Value.ownBlock] at e; omega)
    obtain ⟨a2, c2, rfl⟩ : ∃ a2 c2, v1 = .slice a2 ps.length c2 := by
      rcases hO1.2 with ⟨e1, h2⟩ | ⟨g', cap', cur', e1, _⟩
      · exact ⟨none, 0, by rw [e1, h2]⟩
      · exact ⟨_, _, e1⟩
    clear ho1 hG1
    go_wp2
    go_ret
    exact ⟨a2, c2, rfl, ⟨hO1, fun b e => (hO1.lt b e).2⟩, hB1⟩

def TellP (w : World) (x : Pg) (e : Ending) (w' : World) : Prop := ∃ v0 v1, e = .returned (.agg #[v0, v1]) ∧ SegPg w.heap.size w'.heap.size w' x v0 v1 ∧ Below w.heap.size w w'

/-- A program that is being told: so many of its clauses are. -/
structure TelP (w : World) (x : Pg) (Tb : Nat) (v1 bv : Value) (k : Nat) (wr : World) : Prop where
  res : wr.heap[w.heap.size]? = some (.cells #[.slice none 0 0, .slice none 0 0] 30)
  tob : wr.heap[Tb]? = some (.cells #[bv, v1] 30)
  pl : SegP (w.heap.size + 1) Tb wr v1 x.ps
  ks : SegL (Tb + 1) wr.heap.size wr 142 2 bv k (EKl x.cs)
  lo : w.heap.size < Tb
  bl : Below w.heap.size w wr
theorem TelP.lt {w : World} {x : Pg} {Tb : Nat} {v1 bv : Value} {k : Nat} {wr : World} (h : TelP w x Tb v1 bv k wr) : Tb < wr.heap.size := (Array.getElem?_eq_some_iff.1 h.tob).1

theorem telP_step {w wr w2 : World} {x : Pg} {Tb : Nat} {v1 bv : Value} {k : Nat} {u0 u1 : Value} (h : TelP w x Tb v1 bv k wr) (hk : k < x.cs.length) (hk4 : x.cs.length ≤ 12) (hb : Below wr.heap.size wr w2) (hS : SegK wr.heap.size w2.heap.size w2 x.cs[k] u0 u1) (ho : u0.oneCell' = true ∧ u1.oneCell' = true) :
    ∃ g cap w3, (Builtin.append_ #[27, 27] 27 #[bv, .slice (some ⟨w2.heap.size, 0, none⟩) 1 1]).run Try.prog (w2.alloc (.cells #[u0, u1] 142)) = .ok (.slice (some ⟨g, 0, none⟩) (k + 1) cap) w3 ∧
      w3.heap[Tb]? = some (.cells #[bv, v1] 30) ∧ TelP w x Tb v1 (.slice (some ⟨g, 0, none⟩) (k + 1) cap) (k + 1) (w3.setCell ⟨Tb, 0, none⟩ (.slice (some ⟨g, 0, none⟩) (k + 1) cap)) := by
  have hlt := h.lt
  have hlo := h.lo
  have hs2 := hb.size
  obtain ⟨g, cap, w3, hr, hseg, hgrow, hv⟩ := SegL.push (ekl_keeps x.cs) h.ks (by omega) hb (Nat.le_refl _) hs2 (Nat.le_refl _) (us := [u0, u1]) ⟨hk, u0, u1, rfl, hS⟩ rfl (by intro u hu; simp at hu; rcases hu with rfl | rfl <;> simp [ho])
    Try.underlying27 (info_parts Try.infoK).choose_spec.1 (info_parts Try.infoK).choose_spec.2.1 (info_parts Try.infoK).choose_spec.2.2.1 (info_parts Try.infoK).choose_spec.2.2.2 rfl (by decide) (by decide) (by omega)
  have hsa : (w2.alloc (.cells #[u0, u1] 142)).heap.size = w2.heap.size + 1 := by simp
  have key : ∀ b, b < wr.heap.size → bv.ownBlock ≠ some b → w3.heap[b]? = wr.heap[b]? := fun b hb1 hb2 => by
    rw [hgrow.block b (by simp; omega) (fun e => hb2 e.symm), Below.heap_alloc _ _ _ (by omega)]
    exact hb.block b hb1
  have htb := (key Tb hlt (fun e => by have := hv Tb e; omega)).trans h.tob
  have hsz : (w3.setCell ⟨Tb, 0, none⟩ (.slice (some ⟨g, 0, none⟩) (k + 1) cap)).heap.size = w3.heap.size := by simp [World.setCell]
  have low : ∀ b, b < Tb → (w3.setCell ⟨Tb, 0, none⟩ (.slice (some ⟨g, 0, none⟩) (k + 1) cap)).heap[b]? = wr.heap[b]? := fun b hb1 => by
    rw [Below.heap_setCell _ _ _ _ (by show b ≠ Tb; omega), key b (by omega) (fun e => by have := hv b e; omega)]
  refine ⟨g, cap, w3, hr, htb, ⟨?_, set0_heap htb rfl, h.pl.kept (fun b _ b2 => low b b2), ?_, hlo, ?_⟩⟩
  · rw [low _ hlo]; exact h.res
  · rw [hsz]
    exact hseg.kept (ekl_keeps x.cs) (Agree.set (.inl (Nat.lt_succ_self Tb)))
  · have hB2 : Below w.heap.size w w2 := bstep h.bl hb
    exact ((hB2.alloc (by omega) _).grown hgrow (by simp; omega) (fun j e => by have := hv j e; omega)).setCell (p := ⟨Tb, 0, none⟩) (by show w.heap.size ≤ Tb; omega) _

theorem SegP.wide {lo hi lo' hi' : Nat} {w : World} {v : Value} {s : List Pc} (h : SegP lo hi w v s) (hl : lo' ≤ lo) (hh : hi ≤ hi') : SegP lo' hi' w v s := ⟨own_lo h.1 (fun b e => Nat.le_trans hl (h.1.lt b e).1), fun b e => Nat.lt_of_lt_of_le (h.2 b e) hh⟩
theorem tell_prog_fin {w wr : World} {x : Pg} {Tb : Nat} {v1 bv : Value} (h : TelP w x Tb v1 bv x.cs.length wr) : TellP w x (.returned (.agg #[bv, v1])) ((wr.setCell ⟨w.heap.size, 0, none⟩ bv).setCell ⟨w.heap.size, 1, none⟩ v1) := by
  have hlt := h.lt
  have hlo := h.lo
  have hsz : ((wr.setCell ⟨w.heap.size, 0, none⟩ bv).setCell ⟨w.heap.size, 1, none⟩ v1).heap.size = wr.heap.size := by simp [World.setCell]
  have hk : ∀ hi, Agree (w.heap.size + 1) hi wr ((wr.setCell ⟨w.heap.size, 0, none⟩ bv).setCell ⟨w.heap.size, 1, none⟩ v1) := fun hi => (Agree.set (a := ⟨w.heap.size, 0, none⟩) (.inl (Nat.lt_succ_self _))).trans (Agree.set (a := ⟨w.heap.size, 1, none⟩) (.inl (Nat.lt_succ_self _)))
  refine ⟨bv, v1, rfl, ⟨Tb + 1, by omega, by rw [hsz]; omega, ?_, ?_⟩, ((h.bl.setCell (p := ⟨w.heap.size, 0, none⟩) (Nat.le_refl _) _).setCell (p := ⟨w.heap.size, 1, none⟩) (Nat.le_refl _) _)⟩
  · exact (h.pl.kept (hk _)).wide (by omega) (by omega)
  · rw [hsz]
    exact h.ks.kept (ekl_keeps _) ((hk _).sub (by omega) (Nat.le_refl _))
theorem SegK.shapes {lo hi : Nat} {w : World} {x : Cl} {v0 v1 : Value} (h : SegK lo hi w x v0 v1) : (∃ a c, v0 = .slice a x.h.length c) ∧ ∃ a c, v1 = .slice a x.g.length c := by
  obtain ⟨m, a1, a2, h1, h2⟩ := h
  obtain ⟨p1, c1, e1, _⟩ := h1.1.shape
  obtain ⟨p2, c2, e2, _⟩ := h2.shape
  exact ⟨⟨p1, c1, e1⟩, ⟨p2, c2, e2⟩⟩
theorem SegK.one {lo hi : Nat} {w : World} {x : Cl} {v0 v1 : Value} (h : SegK lo hi w x v0 v1) : v0.oneCell' = true ∧ v1.oneCell' = true := by
  obtain ⟨⟨_, _, rfl⟩, ⟨_, _, rfl⟩⟩ := h.shapes
  exact ⟨rfl, rfl⟩

set_option maxRecDepth 100000 in
set_option maxHeartbeats 8000000 in
theorem tellProg_any (w0 : World) (P : Nat) (x : Pg) (vc vp : Value) (w : World) (hN : PrN w0 P x.cs x.ps w vc vp) (hc : ∀ c ∈ x.cs, clB c = true) (hl : x.cs.length ≤ 12) (hpl : x.ps.length ≤ 6) :
    Calls Try.prog 48 #[.pointer (some ⟨P, 0, none⟩)] w (TellP w x) := by
  obtain ⟨hM, xs, hx, hcl⟩ := hN
  obtain ⟨c0, c1, _, _⟩ := program_cells hM.hp
  have hPs := hM.lt
  obtain ⟨ac, cc, rfl⟩ : ∃ ac cc, vc = .slice ac x.cs.length cc := by
    rcases hx.2 with ⟨e1, h2⟩ | ⟨g', cap', cur', e1, _⟩
    · exact ⟨none, 0, by rw [e1, h2]⟩
    · exact ⟨_, _, e1⟩
  obtain ⟨ap, cp, rfl⟩ : ∃ ap cp, vp = .slice ap x.ps.length cp := by
    rcases hM.op.2 with ⟨e1, h2⟩ | ⟨g', cap', cur', e1, _⟩
    · exact ⟨none, 0, by rw [e1, h2]⟩
    · exact ⟨_, _, e1⟩
  have HCL := hide (fun (W : World) (hW : Below w.heap.size w W) => clonePlaces_any (P + 1) (.slice ap x.ps.length cp) x.ps W (by omega) (own_below hM.op hW))
  have HG := hide (fun (k : Nat) (hk : k < x.cs.length) => (show ∃ b Q, ac = some ⟨b, 0, none⟩ ∧ ∀ (W : World) (hW : Below w.heap.size w W), W.cell? ⟨b, k, none⟩ = some (.pointer (some ⟨Q, 0, none⟩)) ∧ Calls Try.prog 107 #[.pointer (some ⟨Q, 0, none⟩)] W (TellK W x.cs[k]) from by
    obtain ⟨Q, lo, hi, q1, q2, q3, q4, q5⟩ := hcl k hk
    rcases hx.2 with ⟨e1, h2⟩ | ⟨g', cap', cur', e1, _⟩
    · omega
    · injection e1 with e1 _ e3
      subst e1 e3
      refine ⟨g', Q, rfl, fun W hW => ⟨?_, tellClause_any lo hi Q x.cs[k] W (q5.kept (Nat.le_refl _) (fun b _ b2 => hW.block b (Nat.lt_of_lt_of_le b2 q3))) (Nat.le_trans q3 hW.size) (hc _ (List.getElem_mem hk))⟩⟩
      have := hx.cellAt k (by omega)
      rw [q1] at this
      exact (hW.cell (p := ⟨g', k, none⟩) (World.block_lt_of_cell? w _ this)).trans this))
  clear hcl hx hM hc
  go_enter Try.func48, Try.ntmps48
  go_upto_region 1 with fail
  have hb0 := cell_below w (.cells #[.slice none 0 0, .slice none 0 0] 30)
  have hres := World.alloc_heap_new w (.cells #[.slice none 0 0, .slice none 0 0] 30)
  have hs0 : (w.alloc (.cells #[.slice none 0 0, .slice none 0 0] 30)).heap.size = w.heap.size + 1 := by simp
  have c00 := (hb0.cell (p := ⟨P, 0, none⟩) hPs).trans c0
  have c01 := (hb0.cell (p := ⟨P, 1, none⟩) hPs).trans c1
  generalize w.alloc (.cells #[.slice none 0 0, .slice none 0 0] 30) = w9 at hb0 hres hs0 c00 c01 ⊢
  go_wp2_with fail
  refine (unhide HCL w9 hb0).mono ?_
  rintro e w1 ⟨a1, p1, rfl, hS, hb1⟩
  have hres1 := (hb1.block w.heap.size (by omega)).trans hres
  have c11 := (hb1.cell (p := ⟨P, 0, none⟩) (show P < w9.heap.size by omega)).trans c00
  have hs1 := hb1.size
  have hK0 : TelP w x w1.heap.size (.slice a1 x.ps.length p1) (.slice none 0 0) 0 (w1.alloc (.cells #[.slice none 0 0, .slice a1 x.ps.length p1] 30)) :=
    ⟨by rw [Below.heap_alloc _ _ _ (by omega)]; exact hres1, World.alloc_heap_new w1 _, (hS.kept (Agree.below (cell_below _ _) (Nat.le_refl _))).wide (by omega) (Nat.le_refl _), SegL.empty _ _ _ _ _ _, by omega, bstep (bstep hb0 hb1) (cell_below _ _)⟩
  have c21 := ((cell_below w1 (.cells #[.slice none 0 0, .slice a1 x.ps.length p1] 30)).cell (p := ⟨P, 0, none⟩) (show P < w1.heap.size by omega)).trans c11
  obtain ⟨Tb, hTb⟩ : ∃ Tb, Tb = w1.heap.size := ⟨_, rfl⟩
  rw [← hTb] at hK0
  have HK0 := hide hK0
  clear hK0 hS hres1 hres hb1 c00 c01 c11 c0 c1 HCL hs1
  go_upto_region 2 with fail
  rw [← hTb]
  generalize w1.alloc (.cells #[.slice none 0 0, .slice a1 x.ps.length p1] 30) = wa at HK0 c21 ⊢
  clear hTb
  go_wp2
  go_loopw [17] (fun i wr => ∃ (k : Nat) (bv : Value), k ≤ x.cs.length ∧ i = .int .i64 k ∧ TelP w x Tb (.slice a1 x.ps.length p1) bv k wr) (fun i _ => x.cs.length - (intOf i).toNat)
  case atStart => exact ⟨0, _, Nat.zero_le _, rfl, unhide HK0⟩
  case round =>
    obtain ⟨k, bv, hk, rfl, hK⟩ := hrel
    clear HK0 c21
    have HK := hide hK
    have hBr := hK.bl
    obtain ⟨t0, t1, s0, s1⟩ := res2 hK.tob
    have hTbl := hK.lt
    obtain ⟨ab, cb, rfl, _⟩ := hK.ks.shape
    clear hK
    by_cases hlt : k < x.cs.length
    · obtain ⟨b, Q, rfl, hW⟩ := unhide HG k hlt
      obtain ⟨m0, _⟩ := hW wr hBr
      have HC2 := hide (hW wr.drew hBr.drew).2
      have hdr : Below wr.heap.size wr wr.drew := (Below.refl wr.heap.size wr).drew
      clear hW HG
      go_wp2
      go_region_with (go_at_call 107; refine (unhide HC2).mono ?_; rintro e w2 ⟨u0, u1, rfl, hS, hb2⟩; have hb20 : Below wr.heap.size wr w2 := bstep hdr hb2; obtain ⟨g', cap', w3, hr, ht3, hst⟩ := telP_step (unhide HK) hlt hl hb20 hS hS.one; obtain ⟨⟨b1, q1, e1⟩, ⟨b2, q2, e2⟩⟩ := hS.shapes; subst e1 e2; have v1 := (hb20.cell (p := ⟨Tb, 0, none⟩) hTbl).trans t0; have v1a := ((cell_below w2 (.cells #[.slice b1 x.cs[k].h.length q1, .slice b2 x.cs[k].g.length q2] 142)).cell (p := ⟨Tb, 0, none⟩) (Nat.lt_of_lt_of_le hTbl hb20.size)).trans v1; obtain ⟨y0, y1, z0, z1⟩ := res2 ht3; have HST := hide hst; clear hst hS ht3)
      all_goals go_wp2
      all_goals go_roundw
      all_goals first | exact ⟨k + 1, _, by omega, by go_num, unhide HST⟩ | (simp [intOf]; omega)
    · have e : k = x.cs.length := by omega
      subst e
      obtain ⟨r0, r1, q0, q1⟩ := res2 (unhide HK).res
      have FIN := hide (tell_prog_fin (unhide HK))
      clear HK
      go_wp2
      exact bodyPost_ret (v := .agg #[.slice ab x.cs.length cb, .slice a1 x.ps.length p1]) (by simp [results, Try.results48, go_sem, *]) rfl (unhide FIN)
end Go.Proofs.Ytkedckmpjedjoaa
