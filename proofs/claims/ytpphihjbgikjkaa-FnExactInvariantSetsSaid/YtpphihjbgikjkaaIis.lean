/- The contract of impl.InvariantSets. -/
import Derived.Test.YtpphihjbgikjkaaSit
import Derived.Test.YtpphihjbgikjkaaOps
import Derived.Test.YtpphihjbgikjkaaIvo
import Derived.Test.YtpphihjbgikjkaaOio
import Derived.Test.YtpphihjbgikjkaaRlo
namespace Go.Proofs.Ytpphihjbgikjkaa
open Go Go.RowKit

theorem bt_full : ∀ n, n ≤ 5 → ∀ q, q < 5 → btF (2 ^ n - 1) q = decide (q < n) := by
  intro n hn
  rcases (by omega : n = 0 ∨ n = 1 ∨ n = 2 ∨ n = 3 ∨ n = 4 ∨ n = 5) with rfl | rfl | rfl | rfl | rfl | rfl <;> decide +kernel

theorem lv_full {L : List MapN} {n : Nat} (hok : LOk L n) : 2 ^ n - 1 ∈ lvL L n (2 ^ n) := by
  have h5 := hok.n5
  have h1 := hok.n1
  have hp1 : 2 ^ 1 ≤ 2 ^ n := Nat.pow_le_pow_right (by omega) h1
  have hp2 : 2 ^ n ≤ 2 ^ 5 := Nat.pow_le_pow_right (by omega) h5
  have hc : clS L n (btF (2 ^ n - 1)) := ⟨fun j hj h => by
    rw [bt_full n h5 j hj] at h
    exact of_decide_eq_true h, fun i hi p hp _ => by
    have := (hok.step hi hp).2
    rw [bt_full n h5 _ (by omega)]
    exact decide_eq_true this⟩
  have h := (iv_cl hok (by omega)).2 hc
  exact lvL_mem.2 ⟨h.1, by omega, h.2⟩

theorem iv_of {L : List MapN} {n : Nat} (hn : n ≤ 5) {M : List Nat} (hp : M.Perm (lvL L n (2 ^ n))) (hs : M.Pairwise fun a b => kyT a ≤ kyT b) : M = ivC L n := by
  have hnd : M.Nodup := hp.nodup_iff.2 (List.nodup_range.filter _)
  have h2 : 2 ^ n ≤ 2 ^ 5 := Nat.pow_le_pow_right (by omega) hn
  refine ivC_one hn hp ?_
  unfold kso
  rw [List.pairwise_iff_getElem]
  intro i j hi hj hij
  have h1 := (List.pairwise_iff_getElem.1 hs) i j hi hj hij
  have hne := (List.pairwise_iff_getElem.1 (List.nodup_iff_pairwise_ne.1 hnd)) i j hi hj hij
  have h3 := (lvL_mem.1 (hp.mem_iff.1 (List.getElem_mem hi))).1
  have h4 := (lvL_mem.1 (hp.mem_iff.1 (List.getElem_mem hj))).1
  rcases Nat.lt_or_eq_of_le h1 with c | c
  · exact c
  · exact absurd (ky_inj _ (by omega) _ (by omega) c) hne

theorem ivC_len (L : List MapN) {n : Nat} (hn : n ≤ 5) : (ivC L n).length ≤ 32 := by
  have := lvL_len L n (2 ^ n)
  have h2 : 2 ^ n ≤ 2 ^ 5 := Nat.pow_le_pow_right (by omega) hn
  rw [(ivC_perm L n).length_eq]
  omega

theorem iv_mk (L : List MapN) {n : Nat} (hn : n ≤ 5) : mkF (ivR L n) 1 ≤ 20000000 := by
  have h0 := ivC_len L hn
  have h1 := mkF_le 5 (ivR L n) 1 (fun X hX => by
    unfold ivR at hX
    obtain ⟨i, hi, rfl⟩ := List.mem_map.1 hX
    exact lsT_len i)
  have h2 : (ivR L n).length ≤ 32 := by unfold ivR; rw [List.length_map]; exact h0
  omega

theorem info_fns : (Try.prog.info? 72).map (fun i => (i.zero, i.size, i.bytes)) = some (some .nilFunc, 1, 8) := by kernel_rfl

theorem fld_orbs (v : Value) (w : World) : (Instr.field 74 (.agg #[v]) 0).run Try.prog w = .ok v w := by kernel_rfl

/-- The steps. -/
def stV (BL : List Nat) : List Value := BL.map fun b => .func (.func 45) #[] #[.pointer (some ⟨b, 0, none⟩)]

set_option maxRecDepth 100000 in
set_option maxHeartbeats 4000000 in
theorem iIvs_any (L : List MapN) (hl1 : L.length ≤ 1048576) (a : Option Addr) (cap : Nat) (hc1 : a = none → cap = 0) (w : World) (hr : InRowM w a L) :
    Calls Try.prog 19 #[.slice a L.length cap] w (RetT w.heap.size (ivsL L) (chkC L []) w) := by
  have HG := Lib.hid (check_any a none cap 0 L [] hc1 (fun _ => rfl) hl1 (by simp) w hr (Or.inl rfl))
  by_cases hC : chkC L [] = 0
  · obtain ⟨n, hok, hn⟩ := LOk.of hC
    have hsp : ivsL L = ivR L n := by unfold ivsL; rw [if_pos hC, hn, Int.toNat_natCast]
    rw [hsp, hC]
    rw [hC] at HG
    obtain ⟨i0, hi, hz0, hz1, hz2⟩ := info_parts info_fns
    have hn5 := hok.n5
    have HO := Lib.hid fun wx (hb : Below w.heap.size w wx) => iops_any L hok a cap wx (hr.below hb)
    have HK := Lib.hid hok
    have HLN := Lib.hid (psL_len (rchS L) n)
    have HSA := Lib.hid fun j h => psL_at (rchS L) n j h
    clear hr hC hn hok hsp
    go_enter Try.func19, Try.ntmps19
    go_wp2_with fail
    refine HG.out.mono ?_
    rintro e w1 ⟨rfl, hb⟩
    have HB1 := Lib.hid hb
    have hz1' := hb.size
    clear hb
    go_wp2_with fail
    refine (HO.out _ HB1.out).mono ?_
    rintro e w2 ⟨v2, rfl, hown, hb⟩
    obtain ⟨a2, c2, rfl⟩ := ownP_form hown
    have HOW := Lib.hid hown
    rw [HLN.out] at HOW
    rw [HLN.out]
    have HB2 : Hid (Below w.heap.size w w2) := Lib.hid (HB1.out.trans (hb.mono hz1'))
    have hz2' := HB2.out.size
    clear hown hb
    go_wp2_with fail
    go_loopw [5, 7, 18] (fun v _ i wr => ∃ BL : List Nat, BL.length ≤ n ∧ i = .int .i64 (BL.length : Int) ∧ wr.ownsRow w2.heap.size 72 1 v BL.length (stV BL) ∧ (∀ j, j < BL.length → wr.heap[BL.getD j 0]? = some (.cells (cells5 (rchS L j)) 60 (0, 0))) ∧ Below w2.heap.size w2 wr) (fun _ _ i _ => n - (intOf i).toNat)
    case atStart => exact ⟨[], by simp, rfl, World.ownsRow_nil _ _ _ _, fun j hj => by simp at hj, Below.refl _ _⟩
    case round =>
      obtain ⟨BL, hBL, rfl, hown, hbl, hb⟩ := hrel
      have hsr := hb.size
      have HX := Lib.hid hown
      have HBL := Lib.hid hbl
      have HB := Lib.hid hb
      have HBW : Hid (Below w.heap.size w wr) := Lib.hid (HB2.out.trans (hb.mono hz2'))
      obtain ⟨k, hk⟩ : ∃ k, k = BL.length := ⟨_, rfl⟩
      have HKL := Lib.hid hk
      rw [← hk] at hBL HX ⊢
      clear hown hbl hb hk
      obtain ⟨wo, hwo⟩ : ∃ wo, wo = wr := ⟨_, rfl⟩
      subst hwo
      by_cases hkn : k < n
      · have hkn' : (k : Int) < (n : Int) := by omega
        obtain ⟨g, cg, e2, _, hgl, hcl⟩ := ownP_cell (j := k) HOW.out (by rw [HLN.out]; exact hkn)
        rw [HLN.out] at e2
        injection e2 with e2 _ e3
        subst e2 e3
        have hcl2 : ∀ i, i < 5 → wo.cell? ⟨g, k * 5 + i, none⟩ = some (.bool (rchS L k i)) := fun i hi => by
          have h := hcl i hi
          rw [HSA.out k hkn] at h
          exact (HB.out.cell (p := ⟨g, k * 5 + i, none⟩) hgl).trans h
        have x0 := hcl2 0 (by omega)
        have x1 := hcl2 1 (by omega)
        have x2 := hcl2 2 (by omega)
        have x3 := hcl2 3 (by omega)
        have x4 := hcl2 4 (by omega)
        rw [Nat.add_zero] at x0
        obtain ⟨s, hS⟩ : ∃ s, s = rchS L k := ⟨_, rfl⟩
        rw [← hS] at x0 x1 x2 x3 x4
        have HS := Lib.hid hS
        clear hS hcl hcl2
        go_wp2_with (at_builtin; refine wpList_append_own_at _ rfl _ _ 68 rfl w2.heap.size 72 i0 .nilFunc 1 8 Try.underlying68 hi hz0 hz1 hz2 rfl (by decide) u5 k (stV BL) rfl ((HX.out.alloc _).alloc _) ⟨wo.heap.size + 1, 0, none⟩ 1 1 [.func (.func 45) #[] #[.pointer (some ⟨wo.heap.size, 0, none⟩)]] rfl rfl (cell_onei (halloc_at _ _ _ (by simp))) (by intro u hu; simp at hu; subst hu; rfl) (by unfold maxLen; omega) (by omega) (by simp; omega) ?_; intro v' w5 ho hg _ hat)
        have hgs := hg.size
        simp only [World.size_alloc] at hgs
        have hlen : (BL ++ [wo.heap.size]).length = k + 1 := by simp [← HKL.out]
        have hlt : ∀ r, u5.ownBlock = some r → w2.heap.size ≤ r ∧ r < wo.heap.size := fun r e => HX.out.lt r e
        have hb5 : Below w2.heap.size w2 w5 := ((HB.out.alloc (by omega) _).alloc (by simp; omega) _).grown hg (by simp; omega) (fun r e => (hlt r e).1)
        have hst : stV (BL ++ [wo.heap.size]) = stV BL ++ [.func (.func 45) #[] #[.pointer (some ⟨wo.heap.size, 0, none⟩)]] := by simp [stV]
        refine ⟨⟨BL ++ [wo.heap.size], by omega, by rw [hlen]; go_num, by rw [hlen, hst]; exact ho, fun j hj => ?_, hb5⟩, by simp [intOf]; omega⟩
        rw [hlen] at hj
        by_cases hjk : j < k
        · rw [getD_app j _ (by rw [← HKL.out]; exact hjk)]
          have hbj := HBL.out j (by rw [← HKL.out]; exact hjk)
          have hl := (Array.getElem?_eq_some_iff.1 hbj).1
          exact (hg.block _ (by rw [World.size_alloc, World.size_alloc]; omega) (blk_aparti (by decide) hbj HX.out)).trans ((halloc_lt _ _ _ (by rw [World.size_alloc]; omega)).trans ((halloc_lt _ _ _ hl).trans hbj))
        · obtain rfl : j = k := by omega
          have he : (BL ++ [wo.heap.size]).getD j 0 = wo.heap.size := by
            rw [HKL.out, List.getD_eq_getElem?_getD, List.getElem?_append_right (Nat.le_refl _)]
            simp
          rw [he, ← HS.out]
          exact (hg.block _ (by simp; omega) (fun e => by have := hlt _ e.symm; omega)).trans ((halloc_lt _ _ _ (by simp)).trans (halloc_at _ _ _ rfl))
      · have hkn' : ¬ ((k : Int) < (n : Int)) := by omega
        have hke : k = n := by omega
        have hsteps : n = 0 ∨ ∃ gs, ∃ cs, u5 = .slice (some ⟨gs, 0, none⟩) n cs ∧ gs < wo.heap.size ∧ ∀ j, j < n → wo.cell? ⟨gs, j, none⟩ = some (.func (.func 45) #[] #[.pointer (some ⟨BL.getD j 0, 0, none⟩)]) := by
          rcases HX.out.2 with ⟨_, h0⟩ | ⟨g, cap, cur, h1, h2, h3, h4, h5, h6, h7⟩
          · exact Or.inl (by omega)
          · refine Or.inr ⟨g, cap, by rw [h1, hke], (Array.getElem?_eq_some_iff.1 h3).1, fun j hj => ?_⟩
            rw [Joins.cell_of_block h3 j]
            have e : cur.toList[j]? = (stV BL)[j]? := by
              rw [← h7, List.getElem?_take, if_pos (by omega)]
            rw [← Array.getElem?_toList, e]
            unfold stV
            rw [List.getElem?_map, List.getElem?_eq_getElem (by rw [← HKL.out]; omega), List.getD_eq_getElem?_getD, List.getElem?_eq_getElem (by rw [← HKL.out]; omega)]
            rfl
        have hform : ∃ ast cs, u5 = .slice ast n cs := by
          rcases HX.out.2 with ⟨h1, h0⟩ | ⟨g, cap, cur, h1, _⟩
          · exact ⟨none, 0, by rw [h1, ← hke, h0]⟩
          · exact ⟨_, cap, by rw [h1, hke]⟩
        obtain ⟨ast, cs, rfl⟩ := hform
        have HOR := Lib.hid fun wx (hbx : Below wo.heap.size wo wx) => iobs_any (unA L) n 0 (by omega) (by omega) (fun j hj x hx => cdS_lt _) ast cs (fun j => BL.getD j 0) wx
          (by
            rcases hsteps with h | ⟨gs, cs', h1, h2, h3⟩
            · exact Or.inl h
            · injection h1 with h1 _ _
              exact Or.inr ⟨gs, h1, Nat.lt_of_lt_of_le h2 hbx.size, fun j hj => (hbx.cell (p := ⟨gs, j, none⟩) h2).trans (h3 j hj)⟩)
          (fun j hj x hx W hW => by
            have hbj := HBL.out j (by rw [← HKL.out]; omega)
            have hl := (Array.getElem?_eq_some_iff.1 hbj).1
            exact iivc_any L j x (BL.getD j 0) W ((hW.block _ (by have := hbx.size; omega)).trans ((hbx.block _ hl).trans hbj)))
        rw [show cells5 (btF 0) = #[.bool false, .bool false, .bool false, .bool false, .bool false] from rfl] at HOR
        have HTI := Lib.hid fun E (h : Orbt (unA L) n (fun x => x < 32) 0 E) h0 => orb_tail HK.out h h0
        have HIV := Lib.hid fun M hp hs => iv_of (L := L) (n := n) (M := M) hn5 hp hs
        have HLV := Lib.hid (lv_full HK.out)
        have HLL := Lib.hid (lvL_len L n (2 ^ n))
        have h25 : 2 ^ n ≤ 2 ^ 5 := Nat.pow_le_pow_right (by omega) hn5
        have HMEM := Lib.hid fun m => (lvL_mem (L := L) (n := n) (k := 2 ^ n) (m := m)).1
        have HMK := Lib.hid (iv_mk L hn5)
        have HRL : Hid (∀ j, j < (ivR L n).length → ((ivR L n).getD j []).length ≤ 5) := Lib.hid fun j hj => by
          unfold ivR at hj ⊢
          rw [List.length_map] at hj
          rw [map_atR (d := 0) hj]
          exact lsT_len _
        have HRN : Hid ((ivR L n).length ≤ 32) := Lib.hid (by unfold ivR; rw [List.length_map]; exact ivC_len L hn5)
        have hir : ivR L n = (ivC L n).map lsT := rfl
        have HIR := Lib.hid hir
        clear hsteps hke hir
        generalize lvL L n (2 ^ n) = Z at *
        generalize ivR L n = RR at *
        go_wp2_with fail
        refine (HOR.out _ ((Below.refl _ _).alloc (Nat.le_refl _) _)).mono ?_
        rintro e w6 ⟨v6, E, rfl, hown, horb, he0, hb⟩
        obtain ⟨F, rfl, hF⟩ := HTI.out E horb he0
        have hFl : 0 < F.length := List.length_pos_of_mem (hF.mem_iff.2 HLV.out)
        have hFn : F.length ≤ 1000 := by have := hF.length_eq; have := HLL.out; omega
        obtain ⟨g, cg, rfl, hg1, hg2, hcl⟩ := ownP_cell (j := 0) hown (by rw [seL_len]; simp)
        have hcg : (seL (0 :: F)).length ≤ cg := by
          rcases hown.2 with ⟨h, _⟩ | ⟨g', cap', cur, h1, _, _, hn, _⟩
          · cases h
          · injection h1 with _ _ h3
            rw [h3]; exact hn
        rw [seL_len, List.length_cons] at hcg
        obtain ⟨cq, rfl⟩ : ∃ cq, cg = cq + 2 := ⟨cg - 2, by omega⟩
        have hin : InPo w6 (some ⟨g, 5, none⟩) F := ⟨g, 5, rfl, hg2, fun j hj i hi => by
          obtain ⟨g', cg', e', _, _, hc⟩ := ownP_cell (j := j + 1) hown (by rw [seL_len]; simp; omega)
          injection e' with e' _ _
          injection e' with e'
          injection e' with e'
          subst e'
          have := hc i hi
          rw [seL_at _ _ (by simp; omega)] at this
          rw [show 5 + j * 5 + i = (j + 1) * 5 + i by omega]
          exact this⟩
        have HIN := Lib.hid hin
        have HF := Lib.hid hF
        have HSI := Lib.hid fun c => isio_any F hFl hFn (fun m hm => by have := HMEM.out m (hF.mem_iff.1 hm); omega) (fun m hm => (HMEM.out m (hF.mem_iff.1 hm)).2.1) (some ⟨g, 5, none⟩) c w6 hin
        have HB6 : Hid (Below w.heap.size w w6) := Lib.hid ((HBW.out.alloc HBW.out.size _).trans (hb.mono (by simp; omega)))
        have hz6 := HB6.out.size
        have hsl := seL_len (0 :: F)
        rw [List.length_cons] at hsl
        rw [hsl]
        clear hown horb he0 hb hin hF hcl hsl hcg
        obtain ⟨m, hm⟩ : ∃ m, m = F.length := ⟨_, rfl⟩
        rw [← hm] at HSI ⊢
        clear hm HIN hFl hFn
        have hfld := fun w => fld_orbs (.slice (some ⟨g, 0, none⟩) (m + 1) (cq + 2)) w
        go_wp2_with fail
        clear hfld
        with_reducible refine (HSI.out _).mono ?_
        rintro e w7 ⟨v7, us, M, rfl, hp, hs, ht, hb⟩
        have hM := HIV.out M (hp.trans HF.out) hs
        rw [hM, ← HIR.out] at ht
        obtain ⟨a7, c7, rfl, hrt⟩ := ht.rdT (by have := HRN.out; omega) (fun j hj => by have := HRL.out j hj; omega)
        have HRT := Lib.hid hrt
        have HB7 := Lib.hid hb
        clear hp hs hM ht hrt hb
        go_wp2_with fail
        go_ret2
        exact retT_of rfl HRT.out (by omega) HMK.out (HB6.out.trans (HB7.out.mono (by omega)))
  · have hsp : ivsL L = [] := by unfold ivsL; rw [if_neg hC]
    rw [hsp]
    have hne : (chkC L [] != 0) = true := by simpa using hC
    clear hr hC hsp
    generalize chkC L [] = C at *
    go_enter Try.func19, Try.ntmps19
    go_wp2_with fail
    refine HG.out.mono ?_
    rintro e w1 ⟨rfl, hb⟩
    have HB1 := Lib.hid hb
    clear hb
    go_wp2_with fail
    go_ret2
    exact retT_nil HB1.out _
end Go.Proofs.Ytpphihjbgikjkaa
