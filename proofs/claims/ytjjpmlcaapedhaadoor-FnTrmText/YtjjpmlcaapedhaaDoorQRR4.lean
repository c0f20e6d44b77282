/- The reader of texts of the program: the walks of name and term. -/
import Derived.Test.YtjjpmlcaapedhaaDoorQRR3
namespace Go.Proofs.YtjjpmlcaapedhaaDoor
open Go.RowKit Go.Shelf
set_option linter.unusedVariables false
set_option linter.unusedSimpArgs false

/-- What the reader leans on. -/
structure Env (R : Nat) (w : World) : Prop where
  err : ErrT w R
  ten : ∀ w', w.grownBy w' (some R) → TenT w'
theorem Env.grown {R : Nat} {w w' : World} (h : Env R w) (hg : w.grownBy w' (some R)) : Env R w' := ⟨h.err.grown hg, fun w'' hg' => h.ten w'' (grownR_trans hg hg')⟩

def TermOk (R f : Nat) : Prop := ∀ (w : World) (l : List UInt8), Rst w R l (40 - (f : Int)) → l.length ≤ 1000000000 → Env R w →
    Calls Tryd.prog 22 #[.pointer (some ⟨R, 0, none⟩)] w (GotR R w f (rtT f l))

theorem KidsG.grow {wb wr w' : World} {R f : Nat} {nm : List UInt8} {v : Value} {zs : List (Nat × List (Nat × C))} (hK : KidsG wb R f nm v zs wr) (hg : wr.grownBy w' (some R)) (hR : R < wb.heap.size) : KidsG wb R f nm v zs w' := by
  obtain ⟨h3, h4, h5, h7⟩ := hK
  have hs := hg.size
  refine ⟨(hg.block _ h3.lt (fun e => by have := Option.some.inj e; omega)).trans h3, own_apart h4 hg (fun k e => .inl (by cases e; exact hR)), fun x hx => ?_, grownR_trans h7 hg⟩
  refine (h5 x hx).kept (fun b hb => ?_) (fun b hb => ?_)
  · exact ⟨hb.1, Nat.lt_of_lt_of_le hb.2.1 hs, hb.2.2⟩
  · exact hg.block b hb.2.1 (fun e => by have := Option.some.inj e; have := hb.1; omega)

theorem Clone_any (s : ByteArray) (w : World) (hs : s.size ≤ 281474976710656) : Calls Tryd.prog 57 #[.string s] w fun e w' => e = .returned (.string s) ∧ Below w.heap.size w w' := by
  have H := hide (Any.stringslite_Clone laysM316 s w hs)
  go_enter Tryd.func57, Tryd.ntmps57
  go_wp2_with fail
  refine (unhide H).mono ?_
  rintro e w1 ⟨rfl, hb⟩
  go_wp2
  go_ret
  exact ⟨rfl, hb⟩

theorem got_name {w w3 wr : World} {R f g : Nat} {nm r' : List UInt8} {v : Value} {zs : List (Nat × List (Nat × C))} (hK : KidsG w3 R f nm v zs wr) (hz : zs.length ≤ 1000) (hw : w.grownBy w3 (some R)) (hr : Rst wr R r' (40 - (g : Int))) :
    GotR R w (f + 1) (some (⟨3, (zs.map (fun x => x.2.map (·.2))).length, mkS nm⟩ :: (zs.map (fun x => x.2.map (·.2))).flatten, r', g)) (.returned (.pointer (some ⟨w3.heap.size, 0, none⟩))) wr := by
  refine ⟨grownR_trans hw hK.grown, w3.heap.size, _, rfl, ?_, (kidsG_end hK hz).kept (fun b hb => ⟨Nat.le_trans hw.size hb.1, hb.2⟩) (fun _ _ => rfl), hr⟩
  simp only [List.map_cons, List.length_map]
  congr 1
  simp [List.map_flatten, List.map_map, Function.comp_def]

set_option maxRecDepth 100000 in
set_option maxHeartbeats 4000000 in
theorem name_any (R f : Nat) (hf : f ≤ 40) (ih : ∀ g, g ≤ f → TermOk R g) (w : World) (l : List UInt8) (h : Rst w R l (40 - (f : Int))) (hl : l.length ≤ 1000000000) (hE : Env R w) :
    Calls Tryd.prog 40 #[.pointer (some ⟨R, 0, none⟩)] w (GotR R w (f + 1) (nameRes f l)) := by
  obtain ⟨i0, hi, hz0, hz1, hz2⟩ := info_parts (show (Tryd.prog.info? 44).map (fun i => (i.zero, i.size, i.bytes)) = some (some (.pointer none), 1, 8) by kernel_rfl)
  obtain ⟨ht, hd, hle⟩ := tw_take sml l
  have hlt := h.lt
  have h0 := h.c0
  have HC := hide (count_isSmall l (by omega) w)
  have HK := hide (takeR_any w R l (l.takeWhile sml).length _ h hle (by omega))
  rw [ht, hd] at HK
  have hdl : (l.takeWhile sml).length ≤ 1000000000 := by omega
  have hrl : (l.dropWhile sml).length ≤ 1000000000 := by rw [← hd, List.length_drop]; omega
  have HNR := hide (show nameRes f l = (if (l.dropWhile sml).head? = some 40 then
    match rtA f (l.dropWhile sml).tail with
    | none => none
    | some (ks, r', g) => some (⟨3, ks.length, mkS (l.takeWhile sml)⟩ :: ks.flatten, r', g)
  else some ([⟨3, 0, mkS (l.takeWhile sml)⟩], l.dropWhile sml, f)) from rfl)
  have HE := hide hE
  have HIH := hide ih
  clear ht hd hle h hE ih
  generalize l.takeWhile sml = nm at *
  generalize l.dropWhile sml = r at *
  go_enter Tryd.func40, Tryd.ntmps40
  go_wp2_with fail
  refine (unhide HC).mono ?_
  rintro e w1 ⟨rfl, rfl⟩
  go_wp2_with fail
  refine (unhide HK).mono ?_
  rintro e w2 ⟨rfl, hR2, hG2⟩
  have HCL := hide (Clone_any (mkS nm) w2 (by rw [mkS_size]; omega))
  clear HC HK h0
  go_wp2_with fail
  refine (unhide HCL).mono ?_
  rintro e w3 ⟨rfl, hb3⟩
  have hR3 := hR2.below hb3
  have hG3 := grownR_trans hG2 (grownR_below R hb3)
  clear HCL hR2 hG2 hb3
  have hR3l : R < w3.heap.size := hR3.lt
  have hNd : Node (w3.alloc (.cells #[.int .i64 3, .int .i64 0, .string (mkS nm), .slice none 0 0] 71)) w3.heap.size ⟨3, 0, mkS nm⟩ (.slice none 0 0) := World.alloc_heap_new w3 _
  have hb4 := cell_below w3 (.cells #[.int .i64 3, .int .i64 0, .string (mkS nm), .slice none 0 0] 71)
  have hK4 : KidsG w3 R f nm (.slice none 0 0) [] (w3.alloc (.cells #[.int .i64 3, .int .i64 0, .string (mkS nm), .slice none 0 0] 71)) := ⟨hNd, World.ownsRow_nil _ _ _ _, by simp, grownR_below R hb4⟩
  have HS := hide (skip_any _ R r 40 _ (hR3.below hb4))
  clear hNd
  by_cases h40 : r.head? = some 40
  · simp only [h40, decide_true, if_true] at HS
    have HNR2 := hide (show nameRes f l = match rtA f r.tail with
      | none => none
      | some (ks, r', g) => some (⟨3, ks.length, mkS nm⟩ :: ks.flatten, r', g) from by rw [unhide HNR, if_pos h40])
    have htl : r.tail.length ≤ 1000000000 := by rw [List.length_tail]; omega
    clear HNR h40 hrl
    generalize r.tail = l1 at *
    go_wp2_with fail
    refine (unhide HS).mono ?_
    rintro e w5 ⟨rfl, hR5, hG5⟩
    have hK5 := hK4.grow hG5 hR3l
    clear HS hK4 hG5 hb4 hR3
    go_wp2
    go_loopw [5] (fun _ wr => ∃ (fc : Nat) (lc : List UInt8) (v : Value) (zs : List (Nat × List (Nat × C))), zs.length + fc ≤ f ∧ Rst wr R lc (40 - (fc : Int)) ∧ lc.length ≤ 1000000000 ∧ KidsG w3 R f nm v zs wr ∧ rtA f l1 = comb zs (rtA fc lc)) (fun _ wr => pl R wr)
    case atStart =>
      refine ⟨f, l1, _, [], by simp, hR5, htl, hK5, ?_⟩
      cases rtA f l1 with
      | none => rfl
      | some x => rfl
    case round =>
      clear hK5 hR5 htl
      obtain ⟨fc, lc, v, zs, hzf, hRr, hlc, hK, hcomb⟩ := hrel
      have hpl := hRr.pl
      have hGr := grownR_trans hG3 hK.grown
      have HI := hide (unhide HIH fc (by omega) wr lc hRr hlc ((unhide HE).grown hGr))
      have hsz := hK.grown.size
      have HKK := hide hK
      have HCB := hide hcomb
      have HPL := hide hpl
      clear hRr hcomb hpl
      cases ho : rtT fc lc with
      | none =>
        rw [ho] at HI
        have HN := hide (show nameRes f l = none from by rw [unhide HNR2, unhide HCB, rtA, ho]; rfl)
        clear HNR2 HCB hK ho
        go_wp2_with fail
        refine (unhide HI).mono ?_
        rintro e w6 ⟨hg6, rfl⟩
        go_wp2
        go_ret
        exact ⟨grownR_trans hGr hg6, by rw [unhide HN]; rfl⟩
      | some x =>
        obtain ⟨t, r1, g⟩ := x
        rw [ho] at HI
        obtain ⟨hgt, htp, u, _, hlu⟩ := (rt_back fc).1 _ _ _ _ ho
        have hg : g < fc := by omega
        have hr1 : r1.length ≤ 1000000000 := by
          have := congrArg List.length hlu
          rw [List.length_append] at this
          omega
        have HRA := hide (show rtA fc lc = if r1.head? = some 41 then some ([t], r1.tail, g) else if r1.head? = some 44 ∧ g < fc then (match rtA g r1.tail with | none => none | some (ks, r', g') => some (t :: ks, r', g')) else none from by
          rw [rtA, ho]
          rfl)
        clear hgt htp hlu ho
        go_wp2_with fail
        refine (unhide HI).mono ?_
        rintro e w6 ⟨hg6, q, z, rfl, hz, hT, hR6⟩
        have hsz6 := hg6.size
        have hPl := hK.node.lt
        have hc3 : w6.cell? ⟨w3.heap.size, 3, none⟩ = some v := Node.cell ((hg6.block _ hPl (fun e => by have := Option.some.inj e; omega)).trans hK.node)
        have hO6 := own_apart hK.row hg6 (fun k e => .inl (by cases e; exact hR3l))
        have HT := hide hT
        have HZ := hide hz
        have HG6 := hide hg6
        clear hT hz hg6 hK HI
        go_wp2_with (at_builtin; refine wpList_append_lies _ rfl (.tmp 30) (.tmp 32) 69 rfl w3.heap.size 44 i0 _ 1 8 Tryd.underlying69 hi hz0 hz1 hz2 rfl (by decide) v zs.length _ rfl (World.ownsRow.alloc hO6 _) ⟨w6.heap.size, 0, none⟩ 1 1 [.pointer (some ⟨q, 0, none⟩)] rfl rfl (cell_one_new _ _ _) (by simp [Value.oneCell']) (by omega) (by unfold maxLen; omega) (by omega) (by simp; omega) (w6.heap.size + 1) (by simp) ?_)
        intro g' cap' w7 hown' hgrow hat hgl
        have hn3 := kidsG_node hR3l (unhide HKK) (unhide HG6) hgrow
        have hs3 := hn3.cell
        have hf3 := hn3.frozen
        have hn4 := hn3.set (.slice (some ⟨g', 0, none⟩) (zs.length + 1) cap')
        have hc4 := hn4.cells.2.1
        have hf4 := hn4.frozenN'
        obtain ⟨hKS, hRS⟩ := kidsG_step hR3l (unhide HKK) (unhide HG6) ((unhide HT).mono (by omega : fc ≤ f)) hown' hgrow hat
        have hRW := hide ((⟨hRS.trans hR6.blk⟩ : Rst _ R r1 (40 - (g : Int))))
        have HKS := hide hKS
        have hzl : zs.length ≤ 40 := by omega
        clear hn3 hn4 hown' hgrow hat hgl hKS hRS hO6 hc3 hR6 HT HG6 HKK
        generalize hW : (w7.setCell ⟨w3.heap.size, 3, none⟩ (.slice (some ⟨g', 0, none⟩) (zs.length + 1) cap')).setCell ⟨w3.heap.size, 1, none⟩ (.int .i64 (zs.length + 1)) = W at hRW HKS
        have HSK := hide (skip_any W R r1 41 _ (unhide hRW))
        go_wp2_with (go_at_call 37; fail)
        try rw [hW]
        clear hW hs3 hf3 hc4 hf4
        by_cases h41 : r1.head? = some 41
        · simp only [h41, decide_true, if_true] at HSK
          have HN := hide (show nameRes f l = some (⟨3, ((zs ++ [(q, z)]).map (fun x => x.2.map (·.2))).length, mkS nm⟩ :: ((zs ++ [(q, z)]).map (fun x => x.2.map (·.2))).flatten, r1.tail, g) from by
            rw [unhide HNR2, unhide HCB, unhide HRA, if_pos h41]
            simp only [comb, List.map_append, List.map_cons, List.map_nil, unhide HZ])
          clear HNR2 HCB HRA HIH HPL
          refine (unhide HSK).mono ?_
          rintro e w8 ⟨rfl, hR8, hg8⟩
          have hK8 := (unhide HKS).grow hg8 hR3l
          go_wp2
          go_ret
          rw [unhide HN]
          exact got_name hK8 (by simp; omega) hG3 hR8
        · simp only [h41, decide_false, if_false] at HSK
          refine (unhide HSK).mono ?_
          rintro e w8 ⟨rfl, hR8, hg8⟩
          have hK8 := (unhide HKS).grow hg8 hR3l
          have HK8 := hide hK8
          have HSC := hide (skip_any w8 R r1 44 _ hR8)
          clear HSK HKS hRW hg8
          by_cases h44 : r1.head? = some 44
          · simp only [h44, decide_true, if_true] at HSC
            have HN := hide (show rtA f l1 = comb (zs ++ [(q, z)]) (rtA g r1.tail) from by
              rw [unhide HCB, unhide HRA, if_neg h41, if_pos ⟨h44, hg⟩]
              cases rtA g r1.tail with
              | none => rfl
              | some x =>
                obtain ⟨ks, r', g'⟩ := x
                simp only [comb, List.map_append, List.map_cons, List.map_nil, List.append_assoc, List.cons_append, List.nil_append, unhide HZ])
            have hrt : r1.tail.length ≤ 1000000000 := by rw [List.length_tail]; omega
            clear HCB HRA hK8 hR8
            go_wp2_with fail
            refine (unhide HSC).mono ?_
            rintro e w9 ⟨rfl, hR9, hg9⟩
            have HK9 := hide ((unhide HK8).grow hg9 hR3l)
            have hp9 := hR9.pl
            go_wp2
            go_roundw
            case rel => exact ⟨g, r1.tail, _, _, by simp; omega, hR9, hrt, unhide HK9, unhide HN⟩
            case measure =>
              have := unhide HPL
              omega
          · simp only [h44, decide_false, if_false] at HSC
            have HN := hide (show nameRes f l = none from by
              rw [unhide HNR2, unhide HCB, unhide HRA, if_neg h41, if_neg (fun hh => h44 hh.1)]
              rfl)
            have hGf := grownR_trans hG3 hK8.grown
            clear HCB HRA hK8 hR8
            go_wp2_with fail
            refine (unhide HSC).mono ?_
            rintro e w9 ⟨rfl, hR9, hg9⟩
            go_wp2
            go_ret
            exact ⟨grownR_trans hGf hg9, by rw [unhide HN]; rfl⟩
  · simp only [h40, decide_false, if_false] at HS
    have HN := hide (show nameRes f l = some ([⟨3, 0, mkS nm⟩], r, f) from by rw [unhide HNR, if_neg h40])
    clear HNR HIH HE
    go_wp2_with fail
    refine (unhide HS).mono ?_
    rintro e w5 ⟨rfl, hR5, hG5⟩
    have hK5 := hK4.grow hG5 hR3l
    clear HS hK4
    go_wp2
    go_ret
    rw [unhide HN]
    exact got_name hK5 (by simp) hG3 hR5
end Go.Proofs.YtjjpmlcaapedhaaDoor
