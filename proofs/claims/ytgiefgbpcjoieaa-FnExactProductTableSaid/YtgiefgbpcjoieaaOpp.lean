/- The contract of spec.OppositeTable. -/
import Derived.Test.YtgiefgbpcjoieaaTrw
import Derived.Test.YtgiefgbpcjoieaaTbi
namespace Go.Proofs.Ytgiefgbpcjoieaa
open Go.RowKit

def opF (LL : List (List Int)) (a b : Nat) : Int := (mp LL b a : Int)
def opL (LL : List (List Int)) : List (List Int) := if tblB LL = true then tbL (opF LL) LL.length LL.length else []
theorem opL_bad {LL : List (List Int)} (h : tblB LL = false) : opL LL = [] := by unfold opL; rw [h]; rfl
theorem opL_good {LL : List (List Int)} (h : tblB LL = true) : opL LL = tbL (opF LL) LL.length LL.length := by unfold opL; rw [if_pos h]

theorem retT_nil {w w' : World} {B : Nat} (hb : Below w.heap.size w w') (C : Int) : RetT B [] C w (.returned (.tuple #[.slice none 0 0, .int .i64 C])) w' :=
  ⟨none, 0, rfl, ⟨by simp, fun j hj => by simp at hj, Nat.le_refl _, Or.inl rfl⟩, by simp [mkF], hb⟩

set_option maxRecDepth 100000 in
set_option maxHeartbeats 4000000 in
theorem sOpp_any (LL : List (List Int)) (hn : LL.length ≤ 1048576) (hl : ∀ j, j < LL.length → (LL.getD j []).length ≤ 1048576) (a : Option Addr) (c : Nat) (w : World) (h : InRowL w a LL) :
    Calls Try.prog 46 #[.slice a LL.length c] w (RetT w.heap.size (opL LL) (tblC LL) w) := by
  obtain ⟨i0, hi, hz0, hz1, hz2⟩ := info_parts info_int
  have HIS := Lib.hid (sis8_any LL hn hl a c w h)
  cases hT : tblB LL
  · rw [hT] at HIS
    rw [opL_bad hT, tblC_bad hT]
    clear hT h hl
    go_enter Try.func46, Try.ntmps46
    go_wp2_with fail
    refine HIS.out.mono ?_
    rintro e w1 ⟨rfl, hb⟩
    have HB := Lib.hid hb
    clear hb
    go_wp2_with fail
    go_ret2
    exact retT_nil HB.out 2
  rw [hT] at HIS
  have hTB := h.tbl hT
  have HN := tblB_n hT
  rw [opL_good hT, tblC_good hT]
  obtain ⟨b, off, gr, ro, cr, rfl, ht⟩ := hTB
  have HT := Lib.hid ht
  have hn1 := HN.1
  have hn40 := HN.2
  have HF : Hid (∀ x y, opF LL x y = (mp LL y x : Int)) := Lib.hid fun _ _ => rfl
  clear hT h hl ht hn HN
  generalize opF LL = f at *
  generalize LL.length = n at *
  generalize mp LL = mu at *
  go_enter Try.func46, Try.ntmps46
  go_wp2_with fail
  refine HIS.out.mono ?_
  rintro e w1 ⟨rfl, hb⟩
  have HB := Lib.hid hb
  have hsz := hb.size
  clear hb HIS
  go_wp2_with fail
  go_loopw [4, 5, 6, 7] (fun v i _ _ wr => ∃ (k : Nat) (us : List Value), k ≤ n ∧ i = .int .i64 k ∧ Trw wr w.heap.size v us (tbL f n k) ∧ Below w.heap.size w wr) (fun _ i _ _ _ => n - (intOf i).toNat)
  case atStart => exact ⟨0, [], by omega, rfl, trw_nil w1 w.heap.size hsz, HB.out.alloc hsz _⟩
  case round =>
    obtain ⟨k, us, hk, rfl, hown, hb⟩ := hrel
    have HO := Lib.hid hown
    have HBR := Lib.hid hb
    have hzw := hb.size
    clear hb hown
    obtain ⟨wo, hwo⟩ : ∃ wo, wo = wr := ⟨_, rfl⟩
    subst hwo
    by_cases hkn : k < n
    · have hkn' : (k : Int) < (n : Int) := by omega
      go_wp2_with fail
      go_loopw [6, 7] (fun q i wr => ∃ j : Nat, j ≤ n ∧ i = .int .i64 j ∧ Own wr wo.heap.size q (rwL f k j) ∧ Below wo.heap.size wo wr) (fun _ i _ => n - (intOf i).toNat)
      case atStart => exact ⟨0, by omega, rfl, own_empty wo wo.heap.size (Nat.le_refl _), (Below.refl _ _).alloc (Nat.le_refl _) _⟩
      case round =>
        obtain ⟨j, hj, rfl, hown2, hb2⟩ := hrel
        have HB2 := Lib.hid hb2
        have hz2w := hb2.size
        clear hb2
        by_cases hjn : j < n
        · have hjn' : (j : Int) < (n : Int) := by omega
          have hT := (HT.out.below HBR.out).below HB2.out
          have e1 := hT.row j hjn
          have e2 := hT.val j k hjn hkn
          have hlen := rwL_len f k j
          have HSU := Lib.hid (rwL_succ f k j)
          rw [HF.out k j] at HSU
          clear hT
          generalize mu j k = X at *
          obtain ⟨CL, hCL⟩ : ∃ CL, CL = rwL f k j := ⟨_, rfl⟩
          rw [← hCL] at hown2 hlen HSU
          have HHL := Lib.hid hlen
          clear hCL hlen
          go_wp2_with (at_builtin; refine wpList_append_own _ rfl _ _ 23 rfl wo.heap.size 2 i0 (.int .i64 0) 1 8 Try.underlying23 hi hz0 hz1 hz2 rfl (by decide) _ _ _ rfl (World.ownsRow.alloc hown2 _) ⟨wr.heap.size, 0, none⟩ 1 1 [.int .i64 X] rfl rfl ?c1 ?c2 ?c3 ?c4 ?c5 ?_)
          case c1 =>
            intro j u hj
            match j, hj with
            | 0, hj => simp at hj; subst hj; simp [Addr.add]
          case c2 => intro u hu; simp at hu; subst hu; rfl
          case c3 => unfold maxLen; rw [HHL.out]; omega
          case c4 => rw [HHL.out]; omega
          case c5 => simp; omega
          intro v' w3 hown' hgrow _
          have hown3 : Hid (Own w3 wo.heap.size v' (rwL f k (j + 1))) := by
            refine Lib.hid ?_
            unfold Own
            rw [HSU.out]; simpa using hown'
          have hb3 : Hid (Below wo.heap.size wo w3) :=
            Lib.hid ((HB2.out.alloc hz2w _).grown hgrow (by simp; omega) (fun b hbk => by
              rcases hown2.2 with ⟨hv, _⟩ | ⟨g, cap, cur, hv, hg, _⟩
              · rw [hv] at hbk; cases hbk
              · rw [hv] at hbk; cases hbk; exact hg))
          clear hown' hgrow hown2
          go_wp2_with fail
          go_roundw
          case rel => exact ⟨j + 1, by omega, by go_num, hown3.out, hb3.out⟩
          case measure => simp [intOf]; omega
        · obtain rfl : j = n := by omega
          have hrl := rwL_len f k j
          obtain ⟨gu, cu, rfl, hgu, hgul⟩ := own_blk hown2 (fun e => by rw [e] at hrl; simp at hrl; omega)
          have HNE : Hid (rwL f k j ≠ []) := Lib.hid (fun e => by rw [e] at hrl; simp at hrl; omega)
          have HSU := Lib.hid (tbL_succ f j k)
          have HML := Lib.hid (tbL_len f j k)
          have HT3 := Lib.hid (HO.out.below HB2.out)
          have HOU := Lib.hid hown2
          have HNW : Hid (∀ i, i < (tbL f j k).length → (us.getD i undef).ownBlock ≠ (Value.slice (some ⟨gu, 0, none⟩) (rwL f k j).length cu).ownBlock) := Lib.hid fun i hi e => by
            obtain ⟨g2, c2, e2, _, hl2⟩ := own_blk (HO.out.row i hi) (HO.out.full i hi)
            rw [e2] at e
            simp [Value.ownBlock] at e
            omega
          have HBD := Lib.hid (halloc_at wr (.cells #[.slice (some ⟨gu, 0, none⟩) (rwL f k j).length cu] 23) _ rfl)
          clear hown2 hrl
          rw [rwL_len] at HOU HNW HBD ⊢
          obtain ⟨L, hL⟩ : ∃ L, L = rwL f k j := ⟨_, rfl⟩
          rw [← hL] at HNE HSU HOU
          clear hL
          go_wp2_with (at_builtin; refine wpList_appT rfl _ _ rfl w.heap.size _ us (tbL f j k) rfl (HT3.out.below ((Below.refl _ _).alloc (Nat.le_refl _) _)) wr.heap.size 1 _ L ((Turn.of_below (S := fun _ => False) ((Below.refl _ _).alloc (Nat.le_refl _) _)).own (Joins.ownsRow_le HOU.out hzw) (fun _ _ h => h)) HNE.out HNW.out rfl HBD.out (by rw [HML.out]; omega) (by simp; omega) ?_; intro v4 w4 hown4 hgrow4; have HO4 := Lib.hid hown4; have HB5 := Lib.hid (((HBR.out.trans (HB2.out.mono hzw)).alloc (by omega) _).grown hgrow4 (by simp; omega) (fun q e => (World.ownsRow.lt HT3.out.own q e).1)); clear hown4 hgrow4)
          go_roundw
          case rel => exact ⟨k + 1, _, by omega, by go_num, by rw [HSU.out]; exact HO4.out, HB5.out⟩
          case measure => simp [intOf]; omega
    · obtain rfl : k = n := by omega
      obtain ⟨ac, cc, rfl, hrd⟩ := HO.out.rdT (by rw [tbL_len]; omega) (fun j hj => by rw [tbL_len] at hj; rw [tbL_at _ _ _ _ hj, rwL_len]; omega)
      have HRD := Lib.hid hrd
      clear hrd HO
      go_wp2_with fail
      go_ret2
      exact ⟨ac, cc, rfl, HRD.out, mkF_tb300 f (by omega), HBR.out⟩

end Go.Proofs.Ytgiefgbpcjoieaa
