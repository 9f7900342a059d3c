/- The contract of impl.classesOf. -/
import Derived.Test.YtpphihjbgikjkaaDoorTrn
import Derived.Test.YtpphihjbgikjkaaDoorPar
namespace Go.Proofs.YtpphihjbgikjkaaDoor
open Go Go.RowKit

/-- The classes, or the panic at what is no partition. -/
def RetCla (P : List Int) (n : Nat) (E : Addr) (w : World) (e : Ending) (w' : World) : Prop :=
  if parB P n = true then ∃ v us, e = .returned v ∧ Trw w' w.heap.size v us (clsK P n) ∧ Below w.heap.size w w'
  else e = .panicked [{ v := .iface 96 (.pointer (some E)), recovered := false }] ∧ Below w.heap.size w w'

theorem RetCla.bad {P : List Int} {n : Nat} {E : Addr} {w w' : World} (h : parB P n = false) (hb : Below w.heap.size w w') : RetCla P n E w (.panicked [{ v := .iface 96 (.pointer (some E)), recovered := false }]) w' := by
  unfold RetCla; rw [if_neg (by rw [h]; exact Bool.false_ne_true)]; exact ⟨rfl, hb⟩
theorem RetCla.good {P : List Int} {n : Nat} {E : Addr} {w w' : World} {v : Value} {us : List Value} (h : parB P n = true) (ht : Trw w' w.heap.size v us (clsK P n)) (hb : Below w.heap.size w w') : RetCla P n E w (.returned v) w' := by
  unfold RetCla; rw [if_pos h]; exact ⟨v, us, rfl, ht, hb⟩

set_option maxRecDepth 100000 in
set_option maxHeartbeats 4000000 in
theorem icla_any (P : List Int) (n : Nat) (hn : n ≤ 5) (E : Addr) (a : Option Addr) (c : Nat) (w : World) (hr : InRow w a P) (hE : parB P n = false → w.cell? ⟨0, 0, none⟩ = some (.iface 96 (.pointer (some E)))) :
    Calls Tryd.prog 39 #[.slice a P.length c, .int .i64 (n : Int)] w (RetCla P n E w) := by
  obtain ⟨i0, hi, hz0, hz1, hz2⟩ := info_parts info_int
  by_cases hl : P.length = n
  · have HR := Lib.hid hr
    have HE := Lib.hid hE
    have HL := Lib.hid hl
    have hq : ((P.length : Int) != (n : Int)) = false := by simp [hl]
    have hPn : P.length ≤ 5 := by omega
    clear hr hE hl
    obtain ⟨RT, hRT⟩ : ∃ RT, RT = RetCla P n E w := ⟨_, rfl⟩
    have HRT := Lib.hid hRT
    rw [← hRT]
    clear hRT
    obtain ⟨l, hll⟩ : ∃ l, l = P.length := ⟨_, rfl⟩
    have HLL := Lib.hid hll
    rw [← hll] at hq hPn ⊢
    clear hll
    go_enter Tryd.func39, Tryd.ntmps39
    go_wp2_with fail
    go_loopw [5, 6, 7, 8, 16] (fun v _ _ _ i wr => ∃ (k : Nat) (us : List Value), k ≤ l ∧ i = .int .i64 (k : Int) ∧ (∀ j, j < k → okP P j = true) ∧ Trn wr w.heap.size v us (clsK P k) ∧ Below w.heap.size w wr) (fun _ _ _ _ i _ => l - (intOf i).toNat)
    case atStart => exact ⟨0, [], by omega, rfl, fun j hj => by omega, trn_nil _ _, Below.refl _ _⟩
    case round =>
      obtain ⟨k, us, hk, rfl, hok, ht, hb⟩ := hrel
      have HOK := Lib.hid hok
      have HB := Lib.hid hb
      have HT := Lib.hid ht
      have hsr := hb.size
      obtain ⟨av, cv, rfl⟩ := ht.form
      rw [clsK_len]
      rw [clsK_len] at HT
      have hnk := nxK_le P k
      obtain ⟨wo, hwo⟩ : ∃ wo, wo = wr := ⟨_, rfl⟩
      subst hwo
      by_cases hkl : k < l
      · have hkl' : (k : Int) < (l : Int) := by omega
        have hin := (HR.out.below hb)
        obtain ⟨b, off, rfl, hbl, hcs⟩ := hin.resolve_left (fun e => by have := HLL.out; rw [e] at this; simp at this; omega)
        have hx := hcs k (by rw [← HLL.out]; exact hkl)
        have HNO : Hid (okP P k = false → parB P n = false ∧ wo.cell? ⟨0, 0, none⟩ = some (.iface 96 (.pointer (some E)))) := Lib.hid fun h => by
          have h1 := parB_no (n := n) (k := k) (by have := HL.out; have := HLL.out; omega) h
          refine ⟨h1, ?_⟩
          have h2 := HE.out h1
          exact (HB.out.cell (p := ⟨0, 0, none⟩) (World.block_lt_of_cell? w _ h2)).trans h2
        have HOI := Lib.hid (okP_iff (P := P) (k := k))
        have HCN := Lib.hid fun e => clsK_new (k := k) hok e
        have HCO := Lib.hid fun c e hc => clsK_old (P := P) (k := k) (c := c) e hc
        have HCA := Lib.hid fun c hc => clsK_at P k c hc
        have HCL := Lib.hid (clsK_len P k)
        have HRL := Lib.hid fun c => clsK_rlen P k c
        have HROW := Lib.hid fun c => rowP_len P c k
        clear hok hb ht hin hcs
        generalize hX : P.getD k 0 = X at *
        have HX := Lib.hid hX
        generalize hm : nxK P k = m at *
        have HM := Lib.hid hm
        clear hX hm
        by_cases hX0 : X < 0
        · obtain ⟨e1, e2⟩ := HNO.out (by rw [Bool.eq_false_iff]; intro h; have := HOI.out.1 h; omega)
          have HN1 := Lib.hid e1
          clear e1
          go_wp2_with fail
          rw [HRT.out]
          exact ⟨rfl, RetCla.bad HN1.out HB.out⟩
        · by_cases hXm : X > (m : Int)
          · obtain ⟨e1, e2⟩ := HNO.out (by rw [Bool.eq_false_iff]; intro h; have := HOI.out.1 h; omega)
            have HN1 := Lib.hid e1
            clear e1
            go_wp2_with fail
            rw [HRT.out]
            exact ⟨rfl, RetCla.bad HN1.out HB.out⟩
          · obtain ⟨c, rfl⟩ := Int.eq_ofNat_of_zero_le (show 0 ≤ X by omega)
            have HOK2 : Hid (∀ j, j < k + 1 → okP P j = true) := Lib.hid fun j hj => by
              by_cases e : j = k
              · subst e; exact HOI.out.2 ⟨by omega, by omega⟩
              · exact HOK.out j (by omega)
            clear HOI HNO
            by_cases hcm : c < m
            · have HC2 := Lib.hid (HCO.out c rfl hcm)
              have hca := HCA.out c hcm
              have hr1 := HROW.out c
              generalize hW : clsK P k = W at *
              generalize rowP P c k = R at *
              have hcW : c < W.length := by rw [HCL.out]; exact hcm
              obtain ⟨g, cap, e, hg1, hg2, hcell, hfr⟩ := HT.out.cell hcW
              injection e with e1 e2 e3
              subst e1 e3
              have hrow := HT.out.row c hcW
              rw [hca] at hrow
              have HU := Lib.hid hrow
              have HTA : Hid (∀ o, Trn (wo.alloc o) w.heap.size (.slice (some ⟨g, 0, none⟩) m cv) us W) := Lib.hid fun o => HT.out.below ((Below.refl _ _).alloc (Nat.le_refl _) _)
              have HCW := Lib.hid hcW
              clear hrow hca e2 hW hcW HCN HCO HCA HCL HRL HROW
              obtain ⟨U, hU⟩ : ∃ U, U = us.getD c undef := ⟨_, rfl⟩
              rw [← hU] at hcell HU
              have HUU := Lib.hid hU
              clear hU
              have hcm' : (c : Int) < (m : Int) := by omega
              have hnew : ((c : Int) == (m : Int)) = false := by simp; omega
              go_wp2_with (at_builtin; refine wpList_append_own_at _ rfl _ _ 36 rfl w.heap.size 2 i0 (.int .i64 0) 1 8 Tryd.underlying36 hi hz0 hz1 hz2 rfl (by decide) U R.length (R.map (Value.int .i64)) rfl (World.ownsRow.alloc HU.out _) ⟨wo.heap.size, 0, none⟩ 1 1 [.int .i64 (k : Int)] rfl rfl (cell_one_new _ _ _) (by intro u hu; simp at hu; subst hu; rfl) (by unfold maxLen; omega) (by omega) (by simp; omega) ?_; intro v2 w2 ho2 hgr2 _ hat2; have HO2 : Hid (Own w2 w.heap.size v2 (R ++ [(k : Int)])) := Lib.hid (by unfold Own; simpa using ho2); obtain ⟨gu, cu, rfl, _, _⟩ := own_blk HO2.out (by simp); rw [HUU.out] at hgr2 hat2; have hk2 := (HTA.out _).cell2 HCW.out hgr2; have hkc := hk2.1; have hkf := hk2.2; have HG2 := Lib.hid hgr2; have HAT2 := Lib.hid hat2; have hs2 := hgr2.size; (try simp only [World.size_alloc] at hs2); have hgl2 : g < w2.heap.size := (by omega); clear hk2 ho2 hgr2 hat2)
              go_roundw
              case rel =>
                refine ⟨k + 1, us.set c (.slice (some ⟨gu, 0, none⟩) (R.length + 1) cu), by omega, by go_num, HOK2.out, ?_, ?_⟩
                · rw [← HC2.out, show R.length + 1 = (R ++ [(k : Int)]).length by simp]
                  exact Trn.store (HTA.out _) HCW.out HO2.out HG2.out HAT2.out (by simp)
                · refine Below.setCell ((HB.out.alloc (by omega) _).grown HG2.out (by simp; omega) (fun r e => ?_)) hg1 _
                  rw [← HUU.out] at e
                  exact (HU.out.lt r e).1
              case measure => simp [intOf]; omega
            · obtain rfl : c = m := by omega
              have HC2 := Lib.hid (HCN.out rfl)
              have hwl := HCL.out
              clear HCN HCO HCA HRL HROW hcm
              generalize hW : clsK P k = W at *
              clear hW
              have HWL := Lib.hid hwl
              have hgdu : (us ++ [Value.slice none 0 0]).getD c undef = .slice none 0 0 := by
                have := HT.out.len
                rw [List.getD_eq_getElem?_getD, List.getElem?_append_right (by omega), this, hwl]; simp
              have HGDU := Lib.hid hgdu
              have HLW : Hid (c < (W ++ [[]]).length) := Lib.hid (by simp; omega)
              have HWN : Hid ((W ++ [([] : List Int)]).length = c + 1) := Lib.hid (by simp; omega)
              have hcc : (c : Int) < (c : Int) + 1 := by omega
              have hcc2 : (c : Int) < ((c + 1 : Nat) : Int) := by omega
              clear hwl hgdu
              go_wp2_with (first
                | (at_builtin; refine wpList_appN rfl _ _ rfl w.heap.size _ us W rfl (HT.out.below ((Below.refl _ _).alloc (Nat.le_refl _) _)) wo.heap.size 1 rfl (halloc_at _ _ _ rfl) (by rw [HWL.out]; omega) (by simp; omega) ?_; intro v1 w1 hT1 hgr1; obtain ⟨g, cap, rfl, hg1, hg2, hcell, hfr⟩ := hT1.cell HLW.out; rw [HGDU.out] at hcell; rw [HWN.out] at hT1 ⊢; have HT1 := Lib.hid hT1; have HG1 := Lib.hid hgr1; have HGB := Lib.hid hg1; have hs1 := hgr1.size; (try simp only [World.size_alloc] at hs1); have HTA : Hid (∀ o, Trn (w1.alloc o) w.heap.size (.slice (some ⟨g, 0, none⟩) (c + 1) cap) (us ++ [.slice none 0 0]) (W ++ [[]])) := Lib.hid fun o => HT1.out.below ((Below.refl _ _).alloc (Nat.le_refl _) _); clear hT1 hgr1)
                | (at_builtin; refine wpList_append_own_at _ rfl _ _ 36 rfl w.heap.size 2 i0 (.int .i64 0) 1 8 Tryd.underlying36 hi hz0 hz1 hz2 rfl (by decide) (.slice none 0 0) 0 [] rfl (World.ownsRow_nil _ _ _ _) ⟨w1.heap.size, 0, none⟩ 1 1 [.int .i64 (k : Int)] rfl rfl (cell_one_new _ _ _) (by intro u hu; simp at hu; subst hu; rfl) (by unfold maxLen; omega) (by omega) (by simp; omega) ?_; intro v2 w2 ho2 hgr2 _ hat2; have HO2 : Hid (Own w2 w.heap.size v2 ([] ++ [(k : Int)])) := Lib.hid (by unfold Own; simpa using ho2); obtain ⟨gu, cu, rfl, _, _⟩ := own_blk HO2.out (by simp); rw [← HGDU.out] at hgr2 hat2; have hk2 := (HTA.out _).cell2 HLW.out hgr2; have hkc := hk2.1; rw [HGDU.out] at hkc; have hkf := hk2.2; have HG2 := Lib.hid hgr2; have HAT2 := Lib.hid hat2; have hs2 := hgr2.size; (try simp only [World.size_alloc] at hs2); have hgl2 : g < w2.heap.size := (by omega); clear hk2 ho2 hgr2 hat2))
              go_roundw
              case rel =>
                refine ⟨k + 1, (us ++ [Value.slice none 0 0]).set c (.slice (some ⟨gu, 0, none⟩) 1 cu), by omega, by go_num, HOK2.out, ?_, ?_⟩
                · rw [← HC2.out]
                  exact Trn.store (HTA.out _) HLW.out HO2.out HG2.out HAT2.out (by simp)
                · have hbt : ∀ r, (Value.slice av c cv).ownBlock = some r → w.heap.size ≤ r := fun r e => (HT.out.own.lt r e).1
                  have hb1 := (HB.out.alloc (by omega) _).grown HG1.out (by simp; omega) hbt
                  refine Below.setCell ((hb1.alloc (by omega) _).grown HG2.out (by simp; omega) (fun r e => ?_)) HGB.out _
                  rw [HGDU.out] at e
                  simp [Value.ownBlock] at e
              case measure => simp [intOf]; omega
      · obtain rfl : k = l := by omega
        have hkl' : ¬ ((k : Int) < (k : Int)) := by omega
        have HPB : Hid (parB P n = true) := Lib.hid (parB_iff.2 ⟨HL.out, fun j hj => hok j (by have := HL.out; have := HLL.out; omega)⟩)
        have HTW : Hid (Trw wo w.heap.size (.slice av (nxK P k) cv) us (clsK P k)) := Lib.hid (by have h := ht.trw (clsK_full hok); rw [clsK_len] at h; exact h)
        have HKN : Hid (k = n) := Lib.hid (by have := HL.out; have := HLL.out; omega)
        clear hok hb ht
        generalize nxK P k = m at HTW ⊢
        go_wp2_with fail
        rw [HRT.out]
        have h := HTW.out
        rw [HKN.out] at h
        exact RetCla.good HPB.out h HB.out
  · have hpb := parB_len hl
    have HE := Lib.hid (hE hpb)
    have HPB := Lib.hid hpb
    have hq : ((P.length : Int) != (n : Int)) = true := by simp; omega
    have hc0 := HE.out
    clear hr hE hl hpb
    obtain ⟨RT, hRT⟩ : ∃ RT, RT = RetCla P n E w := ⟨_, rfl⟩
    have HRT := Lib.hid hRT
    rw [← hRT]
    clear hRT
    go_enter Tryd.func39, Tryd.ntmps39
    go_wp2_with fail
    rw [HRT.out]
    exact ⟨rfl, RetCla.bad HPB.out (Below.refl _ _)⟩
end Go.Proofs.YtpphihjbgikjkaaDoor
