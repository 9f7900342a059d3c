/- Numbers counted: how many lists of each length. The contracts of spec.SizesByLength and impl.SizesByLength. -/
import Derived.Test.YtpkapgidpgmdoaaWfor
import Derived.Test.YtpkapgidpgmdoaaSzr
namespace Go.Proofs.Ytpkapgidpgmdoaa
open Go.RowKit Go.Maps

/-- One more than the greatest number. -/
def topL (ls : List Nat) : Nat := ls.foldr (fun x m => max (x + 1) m) 0
/-- How often each number comes. -/
def cntL (ls : List Nat) : List Int := (List.range (topL ls)).map fun i => ((ls.count i : Nat) : Int)

theorem cntL_len (ls : List Nat) : (cntL ls).length = topL ls := by unfold cntL; rw [List.length_map, List.length_range]

theorem topL_le {n : Nat} : ∀ {ls : List Nat}, topL ls ≤ n ↔ ∀ x ∈ ls, x + 1 ≤ n
  | [] => by simp [topL]
  | a :: ls => by
    show max (a + 1) (topL ls) ≤ n ↔ _
    rw [Nat.max_le, topL_le]
    simp

theorem topL_app (n : Nat) : ∀ ls : List Nat, topL (ls ++ [n]) = max (topL ls) (n + 1)
  | [] => by simp [topL]
  | a :: ls => by
    show max (a + 1) (topL (ls ++ [n])) = max (max (a + 1) (topL ls)) (n + 1)
    rw [topL_app n ls, Nat.max_assoc]

theorem cnt_past {ls : List Nat} {i : Nat} (h : topL ls ≤ i) : ls.count i = 0 := by
  rw [List.count_eq_zero]
  intro hm
  have := topL_le.1 (Nat.le_refl (topL ls)) i hm
  omega

theorem cntL_ext (ls : List Nat) (m i : Nat) : (cntL ls ++ List.replicate m (0 : Int)).getD i 0 = (ls.count i : Int) := by
  rw [List.getD_eq_getElem?_getD]
  by_cases h : i < topL ls
  · rw [List.getElem?_append_left (by rw [cntL_len]; exact h)]
    unfold cntL
    rw [List.getElem?_map, List.getElem?_range h]
    rfl
  · rw [List.getElem?_append_right (by rw [cntL_len]; omega), cnt_past (by omega)]
    by_cases h2 : i - (cntL ls).length < m
    · rw [List.getElem?_replicate, if_pos h2]; rfl
    · rw [List.getElem?_replicate, if_neg h2]; rfl

theorem cntL_at (ls : List Nat) (i : Nat) : (cntL ls).getD i 0 = (ls.count i : Int) := by
  have := cntL_ext ls 0 i
  simpa using this

theorem lst_ext {A B : List Int} (hl : A.length = B.length) (h : ∀ i, A.getD i 0 = B.getD i 0) : A = B := by
  refine List.ext_getElem hl fun i h1 h2 => ?_
  have := h i
  rw [List.getD_eq_getElem?_getD, List.getElem?_eq_getElem h1, List.getD_eq_getElem?_getD, List.getElem?_eq_getElem h2] at this
  exact this

theorem cntL_same {ls lt : List Nat} (h : ∀ i, ls.count i = lt.count i) : cntL ls = cntL lt := by
  have hm : ∀ x, x ∈ ls ↔ x ∈ lt := fun x => by
    rw [← List.count_pos_iff, ← List.count_pos_iff, h x]
  have ht : topL ls = topL lt := by
    refine Nat.le_antisymm (topL_le.2 fun x hx => topL_le.1 (Nat.le_refl _) x ((hm x).1 hx)) (topL_le.2 fun x hx => topL_le.1 (Nat.le_refl _) x ((hm x).2 hx))
  refine lst_ext (by rw [cntL_len, cntL_len, ht]) fun i => ?_
  rw [cntL_at, cntL_at, h i]

theorem cnt_succ (ls : List Nat) (n m : Nat) (hm : topL ls + m = max (topL ls) (n + 1)) : (cntL ls ++ List.replicate m (0 : Int)).set n ((cntL ls ++ List.replicate m (0 : Int)).getD n 0 + 1) = cntL (ls ++ [n]) := by
  have hl : (cntL ls ++ List.replicate m (0 : Int)).length = topL ls + m := by rw [List.length_append, cntL_len, List.length_replicate]
  refine lst_ext (by rw [List.length_set, hl, cntL_len, topL_app]; exact hm) fun i => ?_
  rw [set_getD _ _ _ _ (by rw [hl]; omega), cntL_ext, cntL_ext, cntL_at, List.count_append]
  by_cases e : i = n
  · subst e
    rw [if_pos rfl]
    simp
  · have hz : [n].count i = 0 := List.count_eq_zero.2 (by simp; exact e)
    rw [if_neg e, hz, Nat.add_zero]

/-- How long the word of a number is. -/
noncomputable def lenW (E : List Nat) (W : List (List Int)) (c : Nat) : Nat := (wofL E W c).length

theorem lens_eq {E : List Nat} {W : List (List Int)} (hn : E.Nodup) (hl : W.length = E.length) : W.map List.length = E.map (lenW E W) := by
  refine List.ext_getElem (by rw [List.length_map, List.length_map, hl]) fun i h1 h2 => ?_
  rw [List.length_map] at h1 h2
  rw [List.getElem_map, List.getElem_map]
  unfold lenW
  have := wofL_at (W := W) hn h2
  rw [List.getD_eq_getElem?_getD, List.getElem?_eq_getElem h2, List.getD_eq_getElem?_getD, List.getElem?_eq_getElem h1] at this
  simp only [Option.getD_some] at this
  rw [this]

theorem put_perm {K : List Nat} {c : Nat} (h : c ∉ K) : (putN K c).Perm (c :: K) := by
  unfold putN
  rw [if_neg h]
  have := List.perm_middle (a := c) (l₁ := K.take (lowN K c)) (l₂ := K.drop (lowN K c))
  rwa [List.take_append_drop] at this

theorem srt_perm {E : List Nat} (hn : E.Nodup) : (srtE E).Perm E := by
  have key : ∀ (E K : List Nat), (∀ x ∈ E, x ∉ K) → E.Nodup → (E.foldl putN K).Perm (E ++ K) := by
    intro E
    induction E with
    | nil => intro K _ _; exact List.Perm.refl _
    | cons c E ih =>
      intro K h hn
      have hn' := List.nodup_cons.1 hn
      rw [List.foldl_cons]
      refine (ih (putN K c) (fun x hx hxk => ?_) hn'.2).trans ?_
      · rcases (put_mem K c x).1 hxk with e | hxk
        · exact hn'.1 (e ▸ hx)
        · exact h x (by simp [hx]) hxk
      · exact ((put_perm (h c (by simp))).append_left E).trans List.perm_middle
  have := key E [] (by simp) hn
  rw [List.append_nil] at this
  exact this

/-- The numbers by length that SizesByLength hands back. -/
noncomputable def szlL (L : List MapN) : List Int := if elsC L [] = 0 then cntL ((cfin (fst0 L) (codes L)).W.map List.length) else []

theorem szlL_bad {L : List MapN} (h : elsC L [] ≠ 0) : szlL L = [] := by unfold szlL; rw [if_neg h]
theorem szlL_good {L : List MapN} (h : elsC L [] = 0) : szlL L = cntL ((cfin (fst0 L) (codes L)).W.map List.length) := by unfold szlL; rw [if_pos h]

theorem szlL_srt {L : List MapN} (h : elsC L [] = 0) (hg : GoodL L) : szlL L = cntL ((elsK L).map (lenW (cfin (fst0 L) (codes L)).E (cfin (fst0 L) (codes L)).W)) := by
  have hI := els_inv hg
  rw [szlL_good h, lens_eq hI.nd hI.len]
  exact cntL_same fun i => (((srt_perm hI.nd).map _).count_eq i).symm

theorem own_set {w : World} {B g cap : Nat} {S : List Int} (h : Own w B (.slice (some ⟨g, 0, none⟩) S.length cap) S) (k : Nat) (_ : k < S.length) (x : Int) : Own (w.setCell ⟨g, k, none⟩ (.int .i64 x)) B (.slice (some ⟨g, 0, none⟩) S.length cap) (S.set k x) := by
  rcases h.2 with ⟨h1, _⟩ | ⟨g2, cap2, cur, h1, hB, hg, hn, hc, hs, ht⟩
  · cases h1
  · injection h1 with h1 _ h3
    injection h1 with h1
    injection h1 with h1
    subst h1 h3
    unfold Own
    rw [List.length_set]
    refine ⟨by rw [List.length_map, List.length_set, Nat.mul_one], Or.inr ⟨g, cap, cur.setIfInBounds k (.int .i64 x), rfl, hB, Joins.block_setCell hg _, hn, hc, by rw [Array.size_setIfInBounds]; exact hs, ?_⟩⟩
    rw [Array.toList_setIfInBounds, List.take_set, ht, List.map_set]

def lenV : Value → Nat
  | .slice _ n _ => n
  | _ => 0

set_option maxRecDepth 100000 in
set_option maxHeartbeats 2000000 in
theorem sszl_any (a : Option Addr) (c : Nat) (L : List MapN) (hl : L.length ≤ 1048576) (w : World) (hr : InRowM w a L) :
    Calls Try.prog 54 #[.slice a L.length c] w (RetRow w.heap.size (szlL L) (elsC L []) w) := by
  have HGV := Lib.hid (given_any a none c 0 L [] hl (by simp) w hr (Or.inl rfl))
  have HR := Lib.hid hr
  simp only [List.length_nil] at HGV
  clear hr
  by_cases hc : chkC L [] = 0
  · have hgood := (chk_good hc).1
    have h1 := hgood.p1
    have h5 := hgood.p5
    have hn1 := hgood.n1
    have hn1' : (0 : Int) < (L.length : Int) := by omega
    have hGV := HGV.out
    rw [hc] at hGV
    have HGV := Lib.hid hGV
    have HRN := Lib.hid (inRow_num hgood HR.out)
    have HVL := Lib.hid hgood.vl
    have HCL := Lib.hid fun (w : World) (h : InRowM w a (mE (fst0 L) (codes L))) => sclo_any h1 h5 hgood.vl (by rw [codes_len]; exact hgood.n6) a c w h
    have hel : elsC L [] = if 300 < (cfin (fst0 L) (codes L)).E.length then 3 else 0 := by unfold elsC; rw [if_pos hc]
    have HEL := Lib.hid hel
    have hwf0 : szlL L = if elsC L [] = 0 then cntL ((cfin (fst0 L) (codes L)).W.map List.length) else [] := rfl
    have HWF := Lib.hid hwf0
    simp only [codes_len] at HCL
    have hl0 : (L.getD 0 z0).1 = fst0 L := rfl
    obtain ⟨b0, o0, rfl, hb0', hat0⟩ := HR.out.at0 (by omega)
    obtain ⟨x0, _, _, _, _, _⟩ := hat0
    rw [hl0] at x0
    clear hc hgood hel hl0 hwf0
    generalize elsC L [] = EC at *
    generalize szlL L = WF at *
    generalize codes L = gs at *
    generalize fst0 L = p at *
    go_enter Try.func54, Try.ntmps54
    go_wp2_with fail
    refine HGV.out.mono ?_
    rintro e w1 ⟨rfl, hb⟩
    have hx1 := (hb.cell (p := ⟨b0, o0, none⟩) hb0').trans x0
    have hb1 : b0 < w1.heap.size := Nat.lt_of_lt_of_le hb0' hb.size
    have HB1 := Lib.hid hb
    have HR1 := Lib.hid (HRN.out.below hb)
    have hs1 := hb.size
    clear hb x0 HGV
    go_wp2_with fail
    refine (HCL.out _ HR1.out).mono ?_
    rintro e w2 ⟨hb2, hrf, htf, ⟨h300, rfl⟩ | ⟨h300, gO, capO, vW, us, rfl, hown, hwds⟩⟩
    · have HB2 := Lib.hid hb2
      have e1 : EC = 3 := by rw [HEL.out, if_pos h300]
      have e3 : WF = [] := by rw [HWF.out, if_neg (by rw [e1]; decide)]
      subst e3 e1
      clear hb2 hrf htf h300
      go_wp2_with fail
      go_ret2
      exact ⟨none, 0, rfl, ⟨by simp, Or.inl rfl⟩, HB1.out.trans (HB2.out.mono hs1)⟩
    · have hI := hrf.inv h1 h5 HVL.out
      have HWD := Lib.hid hwds
      have hwl := hI.wl
      have hlen := hI.len
      have htop : (cfin p gs).W.length ≤ 300 := by omega
      have h0 := hI.one
      have HWL := Lib.hid hwl
      have HB2 := Lib.hid hb2
      have HBX : Hid (Below w.heap.size w w2) := Lib.hid (HB1.out.trans (hb2.mono hs1))
      have hs2 := hb2.size
      have e1 : EC = 0 := by rw [HEL.out, if_neg (by omega)]
      have e3 : WF = cntL ((cfin p gs).W.map List.length) := by rw [HWF.out, if_pos e1]
      subst e3 e1
      have hW0 : 0 < (cfin p gs).W.length := by omega
      clear hown hb2 hrf htf hwds hI hwl HEL HWF hlen h0 h300
      generalize (cfin p gs).E = E at *
      generalize (cfin p gs).W = W at *
      obtain ⟨gW, capW, rfl, hcW0⟩ := wds_open HWD.out hW0
      clear hcW0
      go_wp2_with fail
      go_loopw [8, 9] (fun v i wr => ∃ k : Nat, k ≤ W.length ∧ i = .int .i64 k ∧ Below w2.heap.size w2 wr ∧ Own wr w2.heap.size v (cntL ((W.take k).map List.length))) (fun _ i _ => W.length - (intOf i).toNat)
      case atStart => exact ⟨0, by omega, rfl, (Below.refl _ _).alloc (Nat.le_refl _) _, own_empty _ _ (Nat.le_refl _)⟩
      case round =>
        obtain ⟨k, hk, rfl, hbl, hown⟩ := hrel
        have HBL := Lib.hid hbl
        have HOW := Lib.hid hown
        have hsz := hbl.size
        clear hbl hown
        by_cases hkl : k < W.length
        · have hkl' : (k : Int) < (W.length : Int) := by omega
          have hn : (W.getD k []).length ≤ 300 := Nat.le_trans (HWL.out k) (by omega)
          have hls : topL ((W.take k).map List.length) ≤ 301 := topL_le.2 fun x hx => by
            obtain ⟨y, hy, rfl⟩ := List.mem_map.1 hx
            obtain ⟨i, hi, rfl⟩ := List.getElem_of_mem (List.mem_of_mem_take hy)
            have := HWL.out i
            rw [List.getD_eq_getElem?_getD, List.getElem?_eq_getElem hi] at this
            simp only [Option.getD_some] at this
            omega
          have hcl : ((W.take k).map List.length).length ≤ 300 := by rw [List.length_map, List.length_take]; omega
          have HTS : Hid ((W.take (k + 1)).map List.length = (W.take k).map List.length ++ [(W.getD k []).length]) := Lib.hid (by
            rw [List.take_add_one, List.map_append, List.getElem?_eq_getElem hkl, List.getD_eq_getElem?_getD, List.getElem?_eq_getElem hkl]; rfl)
          have hWA : ∀ z, Below w2.heap.size w2 z → ∃ g c, z.cell? ⟨gW, k, none⟩ = some (.slice (some ⟨g, 0, none⟩) (W.getD k []).length c) := fun z hz => by
            obtain ⟨g2, c2, e2, hc2⟩ := wds_open (HWD.out.below hz) hW0
            injection e2 with e2 _ _
            injection e2 with e2
            injection e2 with e2
            subst e2
            obtain ⟨g, c, eu, _⟩ := HWD.out.row k hkl
            exact ⟨g, c, by rw [hc2 k hkl, eu]⟩
          have HWA := Lib.hid hWA
          clear hWA
          generalize (W.getD k []).length = n at *
          generalize (W.take k).map List.length = ls at *
          go_wp2_with fail
          obtain ⟨wo, hwo⟩ : ∃ wo, wo = wr := ⟨_, rfl⟩
          subst hwo
          go_loopw [8] (fun v2 wr => ∃ m : Nat, topL ls + m ≤ max (topL ls) (n + 1) ∧ Below w2.heap.size w2 wr ∧ Own wr w2.heap.size v2 (cntL ls ++ List.replicate m 0)) (fun v2 _ => n + 1 - lenV v2)
          case atStart => exact ⟨0, by omega, HBL.out, by simpa using HOW.out⟩
          case round =>
            obtain ⟨m, hm, hb3, hown3⟩ := hrel
            have hlen3 : (cntL ls ++ List.replicate m (0 : Int)).length = topL ls + m := by rw [List.length_append, cntL_len, List.length_replicate]
            have HB3 := Lib.hid hb3
            have hs3 := hb3.size
            obtain ⟨gn, cn, hcell⟩ := HWA.out _ hb3
            have hbd : (cntL ls ++ List.replicate m (0 : Int)).getD n 0 = (ls.count n : Int) := cntL_ext ls m n
            have hcn : ls.count n ≤ 300 := Nat.le_trans List.count_le_length hcl
            have HSU := Lib.hid fun h => cnt_succ ls n m h
            have HAP : Hid ((cntL ls ++ List.replicate m (0 : Int)) ++ [0] = cntL ls ++ List.replicate (m + 1) (0 : Int)) := Lib.hid (by rw [List.append_assoc, List.replicate_succ'])
            have hl2 : (cntL ls ++ List.replicate m (0 : Int)).length ≤ 2000000 := by omega
            obtain ⟨a2, cap2, rfl, hrd⟩ := own_rd hown3 hl2
            have HO3 := Lib.hid hown3
            have HRD := Lib.hid hrd
            clear hb3 hown3 hrd
            generalize cntL ls ++ List.replicate m (0 : Int) = S at *
            by_cases hle : S.length ≤ n
            · have hle' : (S.length : Int) ≤ (n : Int) := by omega
              go_wp2_with (at_builtin; refine wpList_appI1 rfl _ _ rfl w2.heap.size _ S rfl (own_bel HO3.out ((Below.refl _ _).alloc (Nat.le_refl _) _)) _ 1 0 rfl (halloc_at _ _ _ rfl) (by omega) (by simp; omega) ?_; intro v4 w4 hown4 hgrow4; have HO4 := Lib.hid hown4; have HB5 : Hid (Below w2.heap.size w2 w4) := Lib.hid (Below.grown (HB3.out.alloc hs3 _) hgrow4 (by simp; omega) (fun q e => (HO3.out.lt q e).1)); clear hown4 hgrow4)
              go_roundw
              case rel => exact ⟨m + 1, by omega, HB5.out, by rw [← HAP.out]; exact HO4.out⟩
              case measure =>
                obtain ⟨a5, cap5, e5, _⟩ := own_rd HO4.out (by simp; omega)
                subst e5
                simp [lenV]; omega
            · have hgt' : ¬ ((S.length : Int) ≤ (n : Int)) := by omega
              have hnl : n < S.length := by omega
              have hnl' : (n : Int) < (S.length : Int) := by omega
              obtain ⟨g', rfl, hgB, hgl, hcs⟩ := HRD.out.2.resolve_left (fun e => by rw [e] at hnl; simp at hnl)
              obtain ⟨e1, e2⟩ := hcs n hnl
              rw [hbd] at e1
              have HEQ := HSU.out (by omega)
              rw [hbd] at HEQ
              have HEQ := Lib.hid HEQ
              have hX : (0 : Int) ≤ (ls.count n : Int) ∧ (ls.count n : Int) ≤ 300 := by omega
              clear hcs hbd hcn
              generalize (ls.count n : Int) = X at *
              go_wp2_with fail
              go_roundw
              case rel => exact ⟨k + 1, by omega, by go_num, HB3.out.setCell (by omega) _, by rw [HTS.out, ← HEQ.out]; exact own_set HO3.out n hnl _⟩
              case measure => simp [intOf]; omega
        · obtain rfl : k = W.length := by omega
          rw [List.take_length] at HOW
          have hl3 : (cntL (W.map List.length)).length ≤ 2000000 := by
            rw [cntL_len]
            refine Nat.le_trans ((topL_le (n := 301)).2 fun x hx => ?_) (by omega)
            obtain ⟨y, hy, rfl⟩ := List.mem_map.1 hx
            obtain ⟨i, hi, rfl⟩ := List.getElem_of_mem hy
            have := HWL.out i
            rw [List.getD_eq_getElem?_getD, List.getElem?_eq_getElem hi] at this
            simp only [Option.getD_some] at this
            omega
          obtain ⟨a5, cap5, rfl, hrd⟩ := own_rd HOW.out hl3
          have HRD := Lib.hid hrd
          clear hrd
          go_wp2_with fail
          go_ret2
          exact ⟨a5, cap5, rfl, HRD.out.mono (by omega), HBX.out.trans (HBL.out.mono (by omega))⟩
  · have e1 : elsC L [] = chkC L [] := elsC_bad hc
    have e3 := szlL_bad (L := L) (by rw [e1]; exact hc)
    rw [e3, e1]
    have hcb : (chkC L [] != 0) = true := by simpa using hc
    clear e1 e3
    generalize chkC L [] = C at *
    go_enter Try.func54, Try.ntmps54
    go_wp2_with fail
    refine HGV.out.mono ?_
    rintro e w1 ⟨rfl, hb⟩
    have HB := Lib.hid hb
    clear hb
    go_wp2_with fail
    go_ret2
    exact ⟨none, 0, rfl, ⟨by simp, Or.inl rfl⟩, HB.out⟩

end Go.Proofs.Ytpkapgidpgmdoaa
