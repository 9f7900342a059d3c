/- The contract of impl.SizesByLength. -/
import Derived.Test.YtpkapgidpgmdoaaSzl
namespace Go.Proofs.Ytpkapgidpgmdoaa
open Go.RowKit Go.Maps

set_option maxRecDepth 100000 in
set_option maxHeartbeats 2000000 in
theorem iszl_any (a : Option Addr) (c : Nat) (L : List MapN) (h1 : a = none → c = 0) (hl : L.length ≤ 1048576) (w : World) (hr : InRowM w a L) :
    Calls Try.prog 55 #[.slice a L.length c] w (RetRow w.heap.size (szlL L) (elsC L []) w) := by
  have HS := Lib.hid (mono_any a none c 0 L [] h1 (fun _ => rfl) hl (by simp) w hr (Or.inl rfl))
  simp only [List.length_nil] at HS
  clear hr
  go_enter Try.func55, Try.ntmps55
  go_wp2_with fail
  refine HS.out.mono ?_
  rintro e w1 ⟨hb, ⟨hc, rfl⟩ | ⟨hc, hg, gE, cE, b, l, rfl, hput, hmap, hmws, hI⟩⟩
  · have HB := Lib.hid hb
    have HK := Lib.hid (szlL_bad hc)
    have hm := halloc_at w1 (.cells #[.slice none 0 0, .map none] 71) _ rfl
    have m0 := Joins.cell_of_block hm 0
    simp only [List.getElem?_toArray, List.getElem?_cons_zero] at m0
    clear hb hc hm
    go_wp2_with fail
    refine wp_loop_rounds 1 ?_
    rw [rounds_succ]
    go_wp2_with fail
    go_ret2
    rw [HK.out]
    exact ⟨none, 0, rfl, ⟨by simp, Or.inl rfl⟩, HB.out.alloc HB.out.size _⟩
  · have hnE : (elsK L).length ≤ 300 := elsK_300 hc hg
    have hba : Below w1.heap.size w1 (w1.alloc (.cells #[.slice (some ⟨gE, 0, none⟩) (elsK L).length cE, .map (some b)] 71)) := (Below.refl _ _).alloc (Nat.le_refl _) _
    have hmx : (w1.alloc (.cells #[.slice (some ⟨gE, 0, none⟩) (elsK L).length cE, .map (some b)] 71)).heap[w1.heap.size]? = some (.cells #[.slice (some ⟨gE, 0, none⟩) (elsK L).length cE, .map (some b)] 71 (0, 0)) := halloc_at _ _ _ rfl
    have hs1 := hb.size
    have HBZ : Hid (Below w.heap.size w (w1.alloc (.cells #[.slice (some ⟨gE, 0, none⟩) (elsK L).length cE, .map (some b)] 71))) := Lib.hid (hb.alloc hs1 _)
    have HPUT := Lib.hid (hput.below hba)
    have HMAP := Lib.hid (mapN2_below hmap hba)
    have HMX := Lib.hid hmx
    have HVL := Lib.hid (elsK_vld hg)
    have HSZ := Lib.hid (szlL_srt hc hg)
    -- each element's word, looked up
    have hlook : ∀ k, k < (elsK L).length → ∃ u, (∃ a c, u = .slice a (lenW (cfin (fst0 L) (codes L)).E (cfin (fst0 L) (codes L)).W ((elsK L).getD k 0)) c) ∧ lenW (cfin (fst0 L) (codes L)).E (cfin (fst0 L) (codes L)).W ((elsK L).getD k 0) ≤ 300 ∧ ∀ x : World, Below w1.heap.size w1 x → (Instr.lookup 69 (.map (some b)) (mv (fst0 L) (dcd ((elsK L).getD k 0))) false).run Try.prog x = .ok u x := fun k hk => by
      have hin : (elsK L).getD k 0 ∈ (cfin (fst0 L) (codes L)).E := (srtE_mem _ _).1 (getD_mem hk)
      obtain ⟨j, hj, ej⟩ := List.mem_iff_getElem.1 hin
      have hje : (cfin (fst0 L) (codes L)).E.getD j 0 = (elsK L).getD k 0 := by rw [List.getD_eq_getElem?_getD, List.getElem?_eq_getElem hj]; exact ej
      obtain ⟨u, hu, ho⟩ := hmws.row j hj
      rw [hje] at hu
      have hlw : lenW (cfin (fst0 L) (codes L)).E (cfin (fst0 L) (codes L)).W ((elsK L).getD k 0) = ((cfin (fst0 L) (codes L)).W.getD j []).length := by unfold lenW; rw [← hje, wofL_at hI.nd hj]
      have hwl := hI.wl j
      have h3 : (cfin (fst0 L) (codes L)).E.length ≤ 300 := by rw [← srtE_len _ hI.nd]; exact hnE
      obtain ⟨au, cu, eu, _⟩ := own_rd ho (by omega)
      refine ⟨u, ⟨au, cu, by rw [hlw]; exact eu⟩, by rw [hlw]; omega, look_word hmap (hI.vl _ hin) hmws.nd hu⟩
    have HLK := Lib.hid hlook
    have HC := Lib.hid hc
    have hbw : Below w1.heap.size w1 (w1.alloc (.cells #[.slice (some ⟨gE, 0, none⟩) (elsK L).length cE, .map (some b)] 71)) := hba
    have HBW := Lib.hid hbw
    clear hb hg hI hput hmap hmws hmx hlook hc hbw
    generalize lenW (cfin (fst0 L) (codes L)).E (cfin (fst0 L) (codes L)).W = lw at *
    generalize elsK L = K at *
    generalize fst0 L = p at *
    have m0 := Joins.cell_of_block HMX.out 0
    simp only [List.getElem?_toArray, List.getElem?_cons_zero] at m0
    go_wp2_with fail
    generalize hwz : w1.alloc (.cells #[.slice (some ⟨gE, 0, none⟩) K.length cE, .map (some b)] 71) = wz at *
    have hsz : w.heap.size ≤ wz.heap.size := HBZ.out.size
    have hsx : w1.heap.size < wz.heap.size := by rw [← hwz]; simp
    clear hwz hba m0
    go_loopw [6, 8, 9, 18] (fun v _ _ i wr => ∃ k : Nat, k ≤ K.length ∧ i = .int .i64 k ∧ Below wz.heap.size wz wr ∧ Own wr wz.heap.size v (cntL ((K.take k).map lw))) (fun _ _ _ i _ => K.length - (intOf i).toNat)
    case atStart => exact ⟨0, by omega, rfl, Below.refl _ _, World.ownsRow_nil _ _ _ _⟩
    case round =>
      obtain ⟨k, hk, rfl, hbl, hown⟩ := hrel
      have HBL := Lib.hid hbl
      have HOW := Lib.hid hown
      have hsr := hbl.size
      have hmr := bel_at hbl HMX.out
      have m1 := Joins.cell_of_block hmr 1
      simp only [List.getElem?_toArray, List.getElem?_cons_zero, List.getElem?_cons_succ] at m1
      clear hbl hown hmr
      have hcl : ((K.take k).map lw).length ≤ 300 := by rw [List.length_map, List.length_take]; omega
      have hls : topL ((K.take k).map lw) ≤ 301 := topL_le.2 fun x hx => by
        obtain ⟨y, hy, rfl⟩ := List.mem_map.1 hx
        obtain ⟨i, hi, rfl⟩ := List.getElem_of_mem (List.mem_of_mem_take hy)
        obtain ⟨_, _, hb, _⟩ := HLK.out i hi
        rw [List.getD_eq_getElem?_getD, List.getElem?_eq_getElem hi] at hb
        simp only [Option.getD_some] at hb
        omega
      by_cases hkl : k < K.length
      · have hkl' : (k : Int) < (K.length : Int) := by omega
        obtain ⟨b1, o1, eb, hl1, hat1⟩ := (HPUT.out.below HBL.out).inRow.at6 k (by rw [mE_len]; exact hkl)
        injection eb with eb
        injection eb with eb1 eb2 _
        subst eb1 eb2
        rw [mE_at _ _ _ hkl] at hat1
        have HTS : Hid ((K.take (k + 1)).map lw = (K.take k).map lw ++ [lw (K.getD k 0)]) := Lib.hid (by
          rw [List.take_add_one, List.map_append, List.getElem?_eq_getElem hkl, List.getD_eq_getElem?_getD, List.getElem?_eq_getElem hkl]; rfl)
        obtain ⟨u, ⟨au, cu, rfl⟩, hn, hlk⟩ := HLK.out k hkl
        obtain ⟨x0, x1, x2, x3, x4, x5⟩ := hat1
        simp only [Nat.zero_add] at x0 x1 x2 x3 x4 x5
        have hbx : Below wz.heap.size wz (wr.alloc (.cells (mcells p (dcd (K.getD k 0))) 39)) := HBL.out.alloc hsr _
        have hlk2 := hlk _ (HBW.out.trans (hbx.mono (by omega)))
        have HBX := Lib.hid hbx
        have HO2 := Lib.hid (own_bel HOW.out ((Below.refl wr.heap.size wr).alloc (Nat.le_refl _) (.cells (mcells p (dcd (K.getD k 0))) 39)))
        have hsw : w1.heap.size < wr.heap.size := by omega
        clear hlk hbx
        generalize K.getD k 0 = x at *
        generalize lw x = n at *
        generalize (K.take k).map lw = ls at *
        simp only [mv, mcells] at hlk2 HBX HO2
        go_wp2_with fail
        generalize wr.alloc (.cells #[.int .i64 p, .int .i64 (dcd x 0), .int .i64 (dcd x 1), .int .i64 (dcd x 2), .int .i64 (dcd x 3), .int .i64 (dcd x 4)] 39) = wy at *
        obtain ⟨wo, hwo⟩ : ∃ wo, wo = wr := ⟨_, rfl⟩
        subst hwo
        go_loopw [6] (fun v2 wr => ∃ m : Nat, topL ls + m ≤ max (topL ls) (n + 1) ∧ Below wz.heap.size wz wr ∧ Own wr wz.heap.size v2 (cntL ls ++ List.replicate m 0)) (fun v2 _ => n + 1 - lenV v2)
        case atStart => exact ⟨0, by omega, HBX.out, by simpa using HO2.out⟩
        case round =>
          obtain ⟨m, hm, hb3, hown3⟩ := hrel
          have hlen3 : (cntL ls ++ List.replicate m (0 : Int)).length = topL ls + m := by rw [List.length_append, cntL_len, List.length_replicate]
          have HB3 := Lib.hid hb3
          have hs3 := hb3.size
          have hbd : (cntL ls ++ List.replicate m (0 : Int)).getD n 0 = (ls.count n : Int) := cntL_ext ls m n
          have hcn : ls.count n ≤ 300 := Nat.le_trans List.count_le_length hcl
          have HSU := Lib.hid fun h => cnt_succ ls n m h
          have HAP : Hid ((cntL ls ++ List.replicate m (0 : Int)) ++ [0] = cntL ls ++ List.replicate (m + 1) (0 : Int)) := Lib.hid (by rw [List.append_assoc, List.replicate_succ'])
          have hl2 : (cntL ls ++ List.replicate m (0 : Int)).length ≤ 2000000 := by omega
          obtain ⟨a2, cap2, rfl, hrd⟩ := own_rd hown3 hl2
          have HO3 := Lib.hid hown3
          have HRD := Lib.hid hrd
          clear hb3 hown3 hrd
          generalize cntL ls ++ List.replicate m (0 : Int) = S at *
          by_cases hle : S.length ≤ n
          · have hle' : (S.length : Int) ≤ (n : Int) := by omega
            go_wp2_with (at_builtin; refine wpList_appI1 rfl _ _ rfl wz.heap.size _ S rfl (own_bel HO3.out ((Below.refl _ _).alloc (Nat.le_refl _) _)) _ 1 0 rfl (halloc_at _ _ _ rfl) (by omega) (by simp; omega) ?_; intro v4 w4 hown4 hgrow4; have HO4 := Lib.hid hown4; have HB5 : Hid (Below wz.heap.size wz w4) := Lib.hid (Below.grown (HB3.out.alloc hs3 _) hgrow4 (by simp; omega) (fun q e => (HO3.out.lt q e).1)); clear hown4 hgrow4)
            go_roundw
            case rel => exact ⟨m + 1, by omega, HB5.out, by rw [← HAP.out]; exact HO4.out⟩
            case measure =>
              obtain ⟨a5, cap5, e5, _⟩ := own_rd HO4.out (by simp; omega)
              subst e5
              simp [lenV]; omega
          · have hgt' : ¬ ((S.length : Int) ≤ (n : Int)) := by omega
            have hnl : n < S.length := by omega
            have hnl' : (n : Int) < (S.length : Int) := by omega
            obtain ⟨g', rfl, hgB, hgl, hcs⟩ := HRD.out.2.resolve_left (fun e => by rw [e] at hnl; simp at hnl)
            obtain ⟨e1, e2⟩ := hcs n hnl
            rw [hbd] at e1
            have HEQ := HSU.out (by omega)
            rw [hbd] at HEQ
            have HEQ := Lib.hid HEQ
            have hX : (0 : Int) ≤ (ls.count n : Int) ∧ (ls.count n : Int) ≤ 300 := by omega
            clear hcs hbd hcn
            generalize (ls.count n : Int) = X at *
            go_wp2_with fail
            go_roundw
            case rel => exact ⟨k + 1, by omega, by go_num, HB3.out.setCell (by omega) _, by rw [HTS.out, ← HEQ.out]; exact own_set HO3.out n hnl _⟩
            case measure => simp [intOf]; omega
      · obtain rfl : k = K.length := by omega
        have HR := HSZ.out
        rw [List.take_length] at HOW hls
        have hl3 : (cntL (K.map lw)).length ≤ 2000000 := by rw [cntL_len]; omega
        rw [← HSZ.out] at HOW hl3
        obtain ⟨a5, cap5, rfl, hrd⟩ := own_rd HOW.out hl3
        have HRD := Lib.hid hrd
        clear hrd
        go_wp2_with fail
        go_ret2
        exact ⟨a5, cap5, by rw [HC.out]; rfl, HRD.out.mono (by omega), HBZ.out.trans (HBL.out.mono (by omega))⟩

end Go.Proofs.Ytpkapgidpgmdoaa
