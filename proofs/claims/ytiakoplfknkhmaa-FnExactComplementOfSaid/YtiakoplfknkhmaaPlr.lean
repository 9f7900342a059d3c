/- The contract of impl.placesReached at any reader. -/
import Derived.Test.YtiakoplfknkhmaaPlm
import Derived.Test.YtiakoplfknkhmaaClone
namespace Go.Proofs.Ytiakoplfknkhmaa
open Go Go.RowKit Go.Maps

/-- slices.Clone at nil. -/
theorem cloneN_any (w : World) :
    Calls Try.prog 81 #[.slice none 0 0] w fun e w' => e = .returned (.slice none 0 0) ∧ w' = w := by
  have hnil : ∀ w : World, (binOp .eql 23 (.slice none 0 0) (.slice none 0 0)).run Try.prog w = .ok (.bool true) w := fun w => Lib.run_eql_slice_nil w _ _ _ 0 0 0 0 Try.underlying23
  go_enter Try.func81, Try.ntmps81
  go_wp2_with fail
  go_ret
  exact ⟨rfl, rfl⟩

/-- slices.Clone at a list of the caller's own. -/
theorem cloneO_any {B : Nat} {v : Value} {L : List Int} (hn : L.length ≤ 1000) (w : World) (h : Own w B v L) :
    Calls Try.prog 81 #[v] w (RetOwn w.heap.size L w) := by
  rcases own_shape h with ⟨rfl, rfl⟩ | ⟨g, cap, rfl, _, _⟩
  · exact (cloneN_any w).mono fun e w' ⟨h1, h2⟩ => ⟨_, h1, World.ownsRow_nil _ _ _ _, h2 ▸ Below.refl _ _⟩
  · refine clone_any g 0 L.length cap L rfl (by omega) w fun i hi => ?_
    obtain ⟨a, c, e, hr⟩ := own_rd h (by omega)
    injection e with e _ _
    subst e
    obtain ⟨g2, e2, _, _, hc⟩ := hr.2.resolve_left (fun e => by rw [e] at hi; simp at hi)
    injection e2 with e2
    injection e2 with e2
    subst e2
    rw [Nat.zero_add]
    exact (hc i hi).1

theorem own_slice {w : World} {B : Nat} {v : Value} {L : List Int} (h : Own w B v L) : ∃ a n c, v = .slice a n c := by
  rcases own_shape h with ⟨rfl, _⟩ | ⟨g, cap, rfl, _, _⟩
  · exact ⟨_, _, _, rfl⟩
  · exact ⟨_, _, _, rfl⟩

/-- Where a search for places stands. -/
structure PlS (w wr : World) (mp : Nat) (v : Value) (cs : List (Nat × Value)) (Q : List (Nat × List Int)) : Prop where
  plc : Plc wr w.heap.size v cs Q
  map : MapI wr mp (Q.map Prod.fst)
  bel : Below w.heap.size w wr
  lo : w.heap.size ≤ mp

theorem PlS.below {w wr wr' : World} {mp : Nat} {v : Value} {cs : List (Nat × Value)} {Q : List (Nat × List Int)} (h : PlS w wr mp v cs Q) (hb : Below wr.heap.size wr wr') : PlS w wr' mp v cs Q :=
  ⟨h.plc.below hb, h.map.same (hb.block _ h.map.lt), h.bel.trans (hb.mono h.bel.size), h.lo⟩

theorem Plc.grownMap {w w' : World} {B mp : Nat} {v : Value} {cs : List (Nat × Value)} {Q : List (Nat × List Int)} {l : List Nat} (h : Plc w B v cs Q) (hm : MapI w mp l) (hg : w.grownBy w' (some mp)) : Plc w' B v cs Q :=
  h.turn (S := fun k => k = mp) ⟨hg.os, hg.tape, hg.output, hg.size, fun k hk hS => hg.block k hk (fun e => hS (by injection e))⟩ (fun r e h2 => mapI_ne hm h.own (by rw [e, h2]))
    (fun j hj r e h2 => mapI_ne hm (h.row j hj) (by rw [e, h2]))

theorem metB_dec (Q : List (Nat × List Int)) (x : Nat) : metB Q x = decide (x ∈ Q.map Prod.fst) := by
  rw [Bool.eq_iff_iff, metB_true]
  simp

theorem own_one {u : Value} {w : World} {B : Nat} {L : List Int} (h : Own w B u L) : u.oneCell' = true := by
  rcases own_shape h with ⟨rfl, _⟩ | ⟨g, cap, rfl, _, _⟩ <;> rfl

set_option maxRecDepth 100000 in
set_option maxHeartbeats 8000000 in
theorem ipl_any {T : TypeId} {v : Value} {fs fb fx k s : Nat} {nx : Nat → Nat → Nat} {Pl : Nat → Prop} (w : World)
    (hms : ∀ w, (method 223 T v "loop.example/g01359/impl.start").run Try.prog w = .ok (fs, v) w) (hmb : ∀ w, (method 223 T v "loop.example/g01359/impl.numbers").run Try.prog w = .ok (fb, v) w)
    (hmx : ∀ w, (method 223 T v "loop.example/g01359/impl.next").run Try.prog w = .ok (fx, v) w)
    (es : ∀ args w, (callFunc fs args).run Try.prog w = .ok (.enter fs args) w) (eb : ∀ args w, (callFunc fb args).run Try.prog w = .ok (.enter fb args) w) (ex : ∀ args w, (callFunc fx args).run Try.prog w = .ok (.enter fx args) w)
    (hS : ∀ z, Below w.heap.size w z → Calls Try.prog fs #[v] z fun e w' => e = .returned (.int .i64 (s : Int)) ∧ Below z.heap.size z w')
    (hB : ∀ z, Below w.heap.size w z → Calls Try.prog fb #[v] z fun e w' => e = .returned (.int .i64 (k : Int)) ∧ Below z.heap.size z w')
    (hX : ∀ z, Below w.heap.size w z → ∀ c i, Pl c → i < k → Calls Try.prog fx #[v, .int .i64 (c : Int), .int .i64 (i : Int)] z fun e w' => e = .returned (.int .i64 (nx c i : Int)) ∧ Below z.heap.size z w')
    (h0 : Pl s) (hc : ∀ x i, i < k → Pl x → Pl (nx x i)) (h25 : ∀ x, Pl x → x < 25) (hk : k ≤ 6) :
    Calls Try.prog 69 #[.iface T v] w (RetPl w.heap.size (brun nx k s 25) w) := by
  have hmm := @run_makeMap Try.prog
  have HS := Lib.hid hS
  have HB := Lib.hid hB
  have HX := Lib.hid hX
  have HOK := Lib.hid fun j => brun_ok (P := Pl) h0 hc j
  have HLE : Hid (∀ j, (brun nx k s j).length ≤ 25) := Lib.hid fun j => (brun_ok (P := Pl) h0 hc j).len id h25 (fun _ _ _ _ e => e)
  have h0s := h25 s h0
  have HCL := Lib.hid hc
  have H25 := Lib.hid h25
  clear hS hB hX h0 hc h25
  go_enter Try.func69, Try.ntmps69
  go_wp2_with fail
  refine (HS.out _ (Below.refl _ _)).mono ?_
  rintro e w1 ⟨rfl, hb⟩
  have hz1 := hb.size
  have HB1 := Lib.hid hb
  clear hb
  go_wp2_with fail
  obtain ⟨wM, hwM⟩ : ∃ wM, wM = (w1.alloc (.cells #[.int .i64 (s : Int), .slice none 0 0] 88)).alloc (.map #[] 0) := ⟨_, rfl⟩
  have hbM : Below w.heap.size w wM := by rw [hwM]; exact (HB1.out.alloc hz1 _).alloc (by simp; omega) _
  have hpM : Plc wM w.heap.size (.slice (some ⟨w1.heap.size, 0, none⟩) 1 1) [(s, .slice none 0 0)] [(s, [])] := by
    refine ⟨⟨rfl, Or.inr ⟨w1.heap.size, 1, #[.int .i64 (s : Int), .slice none 0 0], rfl, hz1, ?_, Nat.le_refl _, by unfold maxLen; omega, rfl, rfl⟩⟩, rfl, fun j hj => ?_⟩
    · rw [hwM]; exact (halloc_lt _ _ _ (by simp)).trans (halloc_at _ _ _ rfl)
    · obtain rfl : j = 0 := by simpa using hj
      exact World.ownsRow_nil _ _ _ _
  have hmM : MapI wM (w1.heap.size + 1) [] := by
    rw [hwM]
    have h := World.ownsMap_made (w1.alloc (.cells #[.int .i64 (s : Int), .slice none 0 0] 88)) Try.prog 2 valP
    rw [World.size_alloc] at h
    exact h
  have HBM := Lib.hid hbM
  have HPM := Lib.hid hpM
  have HMM := Lib.hid hmM
  have hzM := hbM.size
  rw [← hwM]
  clear hbM hpM hmM hwM
  refine (HS.out _ HBM.out).mono ?_
  rintro e w2 ⟨rfl, hb⟩
  have hz2 := hb.size
  have HB2 := Lib.hid (HBM.out.trans (hb.mono hzM))
  have HP2 := Lib.hid (HPM.out.below hb)
  have HM2 := Lib.hid (HMM.out.same (hb.block _ HMM.out.lt))
  clear hb
  go_wp2_with (refine wpList_insert_own rfl _ _ _ rfl (w1.heap.size + 1) [] rfl HM2.out (by unfold maxLen; simp) s h0s rfl rfl ?_; intro w3 hm3 hg3)
  have hp3 : PlS w w3 (w1.heap.size + 1) (.slice (some ⟨w1.heap.size, 0, none⟩) 1 1) [(s, .slice none 0 0)] [(s, [])] :=
    ⟨HP2.out.grownMap HM2.out hg3, hm3, HB2.out.grown hg3 HB2.out.size (fun r e => by injection e with e; omega), by omega⟩
  have HP3 := Lib.hid hp3
  clear hm3 hg3 hp3
  clear hmm
  obtain ⟨mp, hmp⟩ : ∃ mp, mp = w1.heap.size + 1 := ⟨_, rfl⟩
  rw [← hmp] at HP3 ⊢
  clear hmp
  go_wp2_with fail
  go_loopw [3, 5, 6, 7, 8, 29] (fun v a _ _ _ _ wr => ∃ (j : Nat) (cs : List (Nat × Value)), j ≤ (brun nx k s j).length ∧ j ≤ 25 ∧ a = .int .i64 j ∧ PlS w wr mp v cs (brun nx k s j)) (fun _ a _ _ _ _ _ => 25 - (intOf a).toNat)
  case atStart => exact ⟨0, _, by omega, by omega, rfl, HP3.out⟩
  case round =>
    obtain ⟨j, cs, hj1, hj25, rfl, hps⟩ := hrel
    have hle := HLE.out j
    by_cases hjl : j < (brun nx k s j).length
    · have hjl' : (j : Int) < ((brun nx k s j).length : Int) := by omega
      have hbk := HOK.out j
      have hg := List.getElem?_eq_getElem hjl
      have hmem := List.getElem_mem hjl
      have HSTEP := Lib.hid ((brun_succ nx k s j).trans (bstep_some hg))
      obtain ⟨g, cap, rfl, hgl, f0, f1⟩ := hps.plc.at_ hjl
      have e0 : (brun nx k s j).getD j (0, []) = (brun nx k s j)[j] := by rw [List.getD_eq_getElem?_getD, hg]; rfl
      rw [e0] at f0
      have hPc := hbk.all _ hmem
      have hWl := hbk.wl _ hmem
      have HBK : Hid (Bok Pl (j + 1) (brun nx k s j)) := Lib.hid ⟨hbk.all, fun y hy => Nat.le_succ_of_le (hbk.wl y hy), hbk.nd⟩
      have hrow := hps.plc.row j hjl
      have HE0 := Lib.hid e0
      have HPS := Lib.hid hps
      have hb0 := hps.bel.size
      have HBW := Lib.hid hps.bel
      clear hg hmem hbk hps e0
      obtain ⟨c, hc⟩ : ∃ c, c = (brun nx k s j)[j].1 := ⟨_, rfl⟩
      obtain ⟨wd, hwd⟩ : ∃ wd, wd = (brun nx k s j)[j].2 := ⟨_, rfl⟩
      rw [← hc] at f0 hPc HSTEP
      rw [← hwd] at hWl HSTEP
      have HC := Lib.hid hc
      have HWD := Lib.hid hwd
      have HNL : Hid (brun nx k s (j + 1) = bpart nx c wd (brun nx k s j) k) := HSTEP
      clear hc hwd HSTEP
      obtain ⟨Q, hQ⟩ : ∃ Q, Q = brun nx k s j := ⟨_, rfl⟩
      have HQ := Lib.hid hQ
      obtain ⟨ua, un, uc, hu⟩ : ∃ ua un uc, .slice ua un uc = (cs.getD j (0, undef)).2 := by
        rcases own_shape hrow with ⟨h, _⟩ | ⟨g2, c2, h, _, _⟩
        · exact ⟨_, _, _, h.symm⟩
        · exact ⟨_, _, _, h.symm⟩
      have HU := Lib.hid hu
      rw [← hu] at f1
      have HQJ : Hid (Q.getD j (0, []) = (c, wd)) := Lib.hid (by rw [HC.out, HWD.out, HQ.out, HE0.out])
      rw [← hQ] at HPS HBK HNL hjl hjl' hle ⊢
      clear hQ hu HC HWD HE0 hj1 hrow
      obtain ⟨wo, hwo⟩ : ∃ wo, wo = wr := ⟨_, rfl⟩
      subst hwo
      go_wp2_with fail
      refine (HB.out _ (by (repeat' (first | (with_reducible exact Below.refl _ _) | (with_reducible refine Below.alloc ?_ ?_ _) | (with_reducible refine Below.setCell ?_ ?_ _) | (with_reducible refine Below.drew ?_) | (with_reducible refine below_drewN ?_ _) | (with_reducible refine Below.trans ?_ (Below.mono (Hid.out (by assumption)) ?_)) | omega | (simp; done) | (simp; omega))))).mono ?_
      rintro e wn ⟨rfl, hb⟩
      have hzn := hb.size
      (try simp at hzn)
      have HPN := Lib.hid ((HPS.out.below ((Below.refl _ _).alloc (Nat.le_refl _) _)).below hb)
      have hbx : wn.heap[wo.heap.size]? = some (.cells #[.int .i64 (c : Int), .slice ua un uc] 88 (0, 0)) := (hb.block _ (by simp)).trans (halloc_at _ _ _ rfl)
      have HBX := Lib.hid hbx
      have hgn : g ≠ wo.heap.size := by omega
      clear hb hbx f0 f1
      go_wp2_with fail
      go_loopw [3, 7, 8, 29] (fun v _ _ z wr => ∃ (i : Nat) (cs' : List (Nat × Value)), i ≤ k ∧ z = .int .i64 i ∧ PlS w wr mp v cs' (bpart nx c wd Q i) ∧ wr.heap[wo.heap.size]? = some (.cells #[.int .i64 (c : Int), .slice ua un uc] 88 (0, 0)) ∧ v.ownBlock ≠ some wo.heap.size ∧ (cs'.getD j (0, undef)).2 = .slice ua un uc) (fun _ _ _ z _ => k - (intOf z).toNat)
      case atStart => exact ⟨0, cs, by omega, rfl, HPN.out, HBX.out, by simpa [Value.ownBlock] using hgn, HU.out.symm⟩
      case round =>
        obtain ⟨i, cs', hik, rfl, hps, hbx, hne, hcu⟩ := hrel
        by_cases hlt : i < k
        · have hlt' : (i : Int) < (k : Int) := by omega
          have hpc := HCL.out c i hlt hPc
          have hn25 := H25.out _ hpc
          have hbki := Bok.part HBK.out (k := k) (fun i hi => HCL.out c i hi hPc) hWl i hik
          have hl25 : (bpart nx c wd Q i).length ≤ 25 := hbki.len id H25.out (fun _ _ _ _ e => e)
          have hgo := bpart_goes nx c wd Q i
          have hgj : (bpart nx c wd Q i).getD j (0, []) = (c, wd) := by
            have h := hgo.at (List.getElem?_eq_getElem hjl)
            have h2 := HQJ.out
            rw [List.getD_eq_getElem?_getD, List.getElem?_eq_getElem hjl] at h2
            rw [List.getD_eq_getElem?_getD, h]
            exact h2
          have hjq : j < (bpart nx c wd Q i).length := Nat.lt_of_lt_of_le hjl hgo.len
          have HSN : Hid (bpart nx c wd Q (i + 1) = bput nx c wd (bpart nx c wd Q i) i) := Lib.hid rfl
          have HMD := Lib.hid (metB_dec (bpart nx c wd Q i) (nx c i))
          have hrow := hps.plc.row j hjq
          rw [hgj, hcu] at hrow
          have hf0 := Joins.cell_of_block hbx 0
          simp only [List.getElem?_toArray, List.getElem?_cons_zero] at hf0
          have HPS2 := Lib.hid hps
          have HBX2 := Lib.hid hbx
          have HNE := Lib.hid hne
          have HCU := Lib.hid hcu
          have HRW := Lib.hid hrow
          have HGJ := Lib.hid hgj
          have hbz := hps.bel.size
          have hwc : wd.length ≤ 1000 := by omega
          clear hps hbx hne hcu hrow hgj hgo hbki HBX HPN HBK HQJ
          generalize bpart nx c wd Q i = Qi at *
          have HXC := Lib.hid fun z hz => HX.out z hz c i hPc hlt
          generalize hY : nx c i = Y at *
          have HY := Lib.hid hY
          clear hY
          go_wp2_with fail
          refine (HXC.out _ HPS2.out.bel).mono ?_
          rintro e wA ⟨rfl, hb⟩
          have hzA := hb.size
          have HPA := Lib.hid (HPS2.out.below hb)
          have hbxA := (hb.block _ (Array.getElem?_eq_some_iff.1 HBX2.out).1).trans HBX2.out
          have HRA := Lib.hid (own_bel7 HRW.out hb)
          have HBXA := Lib.hid hbxA
          have hlook := HPA.out.map.look hn25
          have hbA := HPA.out.bel.size
          clear hb hbxA hf0
          by_cases hmet : Y ∈ Qi.map Prod.fst
          · rw [decide_eq_true hmet] at hlook HMD
            clear hmet
            go_wp2_with fail
            go_roundw
            case rel => exact ⟨i + 1, cs', by omega, by go_num, by rw [HSN.out]; unfold bput; rw [HY.out, if_pos HMD.out]; exact HPA.out, HBXA.out, HNE.out, HCU.out⟩
            case measure => simp [intOf]; omega
          · rw [decide_eq_false hmet] at hlook HMD
            clear hmet
            go_wp2_with (refine wpList_update_own rfl _ _ _ rfl mp (Qi.map Prod.fst) rfl HPA.out.map (by unfold maxLen; simp; omega) Y hn25 rfl rfl ?_; intro wB hmB hgB; have hbxB := (hgB.block _ (Array.getElem?_eq_some_iff.1 HBXA.out).1 (fun e => mapI_cells HPA.out.map HBXA.out (by injection e))).trans HBXA.out; have hf1 := Joins.cell_of_block hbxB 1; simp only [List.getElem?_toArray, List.getElem?_cons_zero, List.getElem?_cons_succ] at hf1; have HMB := Lib.hid hmB; have HGB := Lib.hid hgB; have hzB := hgB.size; clear hmB hgB hbxB)
            have HTB : Hid (Turn wA wB (fun k => k = mp)) := Lib.hid ⟨HGB.out.os, HGB.out.tape, HGB.out.output, HGB.out.size, fun k hk hS => HGB.out.block k hk (fun e => hS (by injection e))⟩
            have HRB : Hid (Own wB w.heap.size (.slice ua un uc) wd) := Lib.hid (HTB.out.own HRA.out (fun r e h => mapI_ne HPA.out.map HRA.out (by rw [e, h])))
            clear hlook
            refine (cloneO_any hwc _ HRB.out).mono ?_
            rintro e wC ⟨uC, rfl, hoC, hbC⟩
            have hzC := hbC.size
            have HOC := Lib.hid hoC
            have HBC := Lib.hid hbC
            have HTC := Lib.hid (HTB.out.trans (Turn.of_below hbC))
            clear hoC hbC hf1
            go_wp2_with (first
              | (at_builtin; refine wpList_appI7 rfl _ _ rfl wB.heap.size _ wd rfl (HOC.out.alloc _) wC.heap.size 1 (i : Int) rfl (halloc_at _ _ _ rfl) (by omega) (by simp; omega) ?_; intro vD wD hoD hgD _; obtain ⟨da, dn, dc, rfl⟩ := own_slice hoD; have htD := Turn.grown (HTC.out.trans (Turn.of_below ((Below.refl _ _).alloc (Nat.le_refl _) (.cells #[.int .i64 (i : Int)] 2)))) hgD (fun k hk e => absurd (HOC.out.lt k e.symm).1 (by omega)); have HPD := Lib.hid (HPA.out.plc.turn htD (fun r e h => mapI_ne HPA.out.map HPA.out.plc.own (by rw [e, h])) (fun j hj r e h => mapI_ne HPA.out.map (HPA.out.plc.row j hj) (by rw [e, h]))); have HOD2 : Hid (Own wD w.heap.size (.slice da dn dc) (wd ++ [(i : Int)])) := Lib.hid (World.ownsRow.mono hoD (by omega)); have hzD := htD.size; have HTD := Lib.hid htD; have HGD := Lib.hid hgD; have hyD := hgD.size; (try simp at hyD); clear hoD hgD htD)
              | (at_builtin; refine wpList_appP7 rfl _ _ rfl w.heap.size _ cs' Qi rfl (HPD.out.below ((Below.refl _ _).alloc (Nat.le_refl _) _)) wD.heap.size 1 Y (.slice da dn dc) (wd ++ [(i : Int)]) (own_bel7 HOD2.out ((Below.refl _ _).alloc (Nat.le_refl _) _)) (own_one HOD2.out) rfl (halloc_at _ _ _ rfl) (by omega) (by simp; omega) ?_; intro vF wF hpF hgF h4))
            have hxA := (Array.getElem?_eq_some_iff.1 HBXA.out).1
            have hxmp := mapI_cells HPA.out.map HBXA.out
            have hxD : wD.heap[wo.heap.size]? = some (.cells #[.int .i64 (c : Int), .slice ua un uc] 88 (0, 0)) := HTD.out.at_ HBXA.out hxmp
            have hxD2 := (halloc_lt wD (.cells #[.int .i64 (Y : Int), .slice da dn dc] 88) wo.heap.size (by omega)).trans hxD
            have hbxF : wF.heap[wo.heap.size]? = some (.cells #[.int .i64 (c : Int), .slice ua un uc] 88 (0, 0)) := (hgF.block _ (by simp; omega) (fun e => HNE.out e.symm)).trans hxD2
            have hmpA := HPA.out.map.lt
            have hmD : wD.heap[mp]? = wB.heap[mp]? := by
              have h1 := HBC.out.block mp (by omega)
              have h2 := halloc_lt wC (.cells #[.int .i64 (i : Int)] 2) mp (by omega)
              have h3 := HGD.out.block mp (by simp; omega) (fun e => absurd (HOC.out.lt mp e.symm).1 (by omega))
              rw [h3, h2, h1]
            have hmF : wF.heap[mp]? = wB.heap[mp]? := by
              have h2 := halloc_lt wD (.cells #[.int .i64 (Y : Int), .slice da dn dc] 88) mp (by omega)
              have h3 := hgF.block mp (by simp; omega) (fun e => mapI_ne (MapI.same HPA.out.map rfl) HPA.out.plc.own e.symm)
              rw [h3, h2, hmD]
            have hpsF : PlS w wF mp vF (cs' ++ [(Y, .slice da dn dc)]) (Qi ++ [(Y, wd ++ [(i : Int)])]) := by
              refine ⟨hpF, ?_, ?_, HPA.out.lo⟩
              · rw [List.map_append]
                exact HMB.out.same hmF
              · have hlo := HPA.out.lo
                have hwA : Below w.heap.size w wD := HPA.out.bel.trans (HTD.out.belP (fun k hk e => by omega) hbA)
                exact (hwA.alloc (by omega) _).grown hgF (by simp; omega) (fun r e => (HPA.out.plc.own.lt r e).1)
            have hneF : vF.ownBlock ≠ some wo.heap.size := by
              rcases h4 with h | h
              · rw [h]; exact HNE.out
              · rw [h]
                intro e
                injection e with e
                simp at e
                omega
            have hcuF : ((cs' ++ [(Y, Value.slice da dn dc)]).getD j (0, undef)).2 = .slice ua un uc := by
              have hl := HPA.out.plc.len
              rw [List.getD_eq_getElem?_getD, List.getElem?_append_left (by omega), ← List.getD_eq_getElem?_getD]
              exact HCU.out
            have HF1 := Lib.hid hbxF
            have HF2 := Lib.hid hpsF
            have HF3 := Lib.hid hneF
            have HF4 := Lib.hid hcuF
            clear hbxF hpsF hneF hcuF hpF hgF h4
            go_wp2_with fail
            go_roundw
            case rel => exact ⟨i + 1, _, by omega, by go_num, by rw [HSN.out]; unfold bput; rw [HY.out, if_neg (by rw [HMD.out]; exact Bool.false_ne_true)]; exact HF2.out, HF1.out, HF3.out, HF4.out⟩
            case measure => simp [intOf]; omega
        · obtain rfl : i = k := by omega
          have HPS2 := Lib.hid hps
          have hx1 : j + 1 ≤ (brun nx i s (j + 1)).length := by
            rw [HNL.out]
            have := (bpart_goes nx c wd Q i).len
            omega
          have HX1 := Lib.hid hx1
          clear hps hbx hne hcu hx1
          go_wp2_with fail
          go_roundw
          case rel => exact ⟨j + 1, cs', HX1.out, by omega, by go_num, by rw [HNL.out]; exact HPS2.out⟩
          case measure => simp [intOf]; omega
    · have hle2 : (brun nx k s j).length ≤ j := by omega
      have HEND := Lib.hid (brun_stops (m := 25) hle2 hj25)
      have hjl' : ¬ ((j : Int) < ((brun nx k s j).length : Int)) := by omega
      have HPS := Lib.hid hps
      have hpos : 0 < (brun nx k s j).length := by have := (brun_le nx k s (Nat.zero_le j)).len; simp [brun] at this; omega
      obtain ⟨g, cap, rfl, _, _, _⟩ := hps.plc.at_ hpos
      clear hps hpos
      go_wp2_with fail
      go_ret
      exact ⟨_, cs, rfl, by rw [HEND.out]; exact HPS.out.plc, HPS.out.bel⟩

end Go.Proofs.Ytiakoplfknkhmaa
