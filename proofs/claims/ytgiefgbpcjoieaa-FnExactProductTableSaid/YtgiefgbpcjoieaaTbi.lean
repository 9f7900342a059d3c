/- The contracts of IdempotentNumbers on both sides. -/
import Derived.Test.YtgiefgbpcjoieaaTbm
namespace Go.Proofs.Ytgiefgbpcjoieaa
open Go.RowKit

def tblC (LL : List (List Int)) : Int := if tblB LL = true then 0 else 2
theorem tblC_bad {LL : List (List Int)} (h : tblB LL = false) : tblC LL = 2 := by unfold tblC; rw [h]; rfl
theorem tblC_good {LL : List (List Int)} (h : tblB LL = true) : tblC LL = 0 := by unfold tblC; rw [h]; rfl
def ipB (mu : Nat → Nat → Nat) (a : Nat) : Bool := mu a a == a
def ipnL (LL : List (List Int)) : List Int := if tblB LL = true then ascK (ipB (mp LL)) LL.length else []
theorem ipnL_bad {LL : List (List Int)} (h : tblB LL = false) : ipnL LL = [] := by unfold ipnL; rw [h]; rfl
theorem ipnL_good {LL : List (List Int)} (h : tblB LL = true) : ipnL LL = ascK (ipB (mp LL)) LL.length := by unfold ipnL; rw [h]; rfl

set_option maxRecDepth 100000 in
set_option maxHeartbeats 2000000 in
theorem sIpn_any (LL : List (List Int)) (hn : LL.length ≤ 1048576) (hl : ∀ j, j < LL.length → (LL.getD j []).length ≤ 1048576) (a : Option Addr) (c : Nat) (w : World) (h : InRowL w a LL) :
    Calls Try.prog 38 #[.slice a LL.length c] w (RetRow w.heap.size (ipnL LL) (tblC LL) w) := by
  obtain ⟨i0, hi, hz0, hz1, hz2⟩ := info_parts info_int
  have HIS := Lib.hid fun w h => sis8_any LL hn hl a c w h
  cases hT : tblB LL
  · rw [ipnL_bad hT, tblC_bad hT]
    have HISW := HIS.out w h
    rw [hT] at HISW
    have HISW := Lib.hid HISW
    clear hT HIS h hl
    go_enter Try.func38, Try.ntmps38
    go_wp2_with fail
    refine HISW.out.mono ?_
    rintro e w1 ⟨rfl, hb⟩
    have HB := Lib.hid hb
    clear hb
    go_wp2_with fail
    go_ret2
    exact ⟨none, 0, rfl, ⟨by simp, Or.inl rfl⟩, HB.out⟩
  · have hTB := h.tbl hT
    have HN := tblB_n hT
    have HISW := HIS.out w h
    rw [hT] at HISW
    have HISW := Lib.hid HISW
    rw [ipnL_good hT, tblC_good hT]
    obtain ⟨b, off, gr, ro, cr, rfl, ht⟩ := hTB
    have HT := Lib.hid ht
    have hn40 := HN.2
    clear hT HIS h hl HN ht hn
    generalize LL.length = n at *
    generalize mp LL = mu at *
    go_enter Try.func38, Try.ntmps38
    go_wp2_with fail
    refine HISW.out.mono ?_
    rintro e w1 ⟨rfl, hb⟩
    have HB := Lib.hid hb
    have hsz := hb.size
    clear hb
    go_wp2_with fail
    go_loopw [4, 5] (fun v i wr => ∃ k : Nat, k ≤ n ∧ i = .int .i64 k ∧ wr.ownsRow w.heap.size 2 1 v (ascK (ipB mu) k).length ((ascK (ipB mu) k).map (Value.int .i64)) ∧ Below w.heap.size w wr ∧ w1.heap.size ≤ wr.heap.size) (fun _ i _ => n - (intOf i).toNat)
    case atStart => exact ⟨0, by omega, rfl, own_empty w1 w.heap.size hsz, HB.out.alloc hsz _, by simp⟩
    case round =>
      obtain ⟨k, hk, rfl, hown, hb, hzr⟩ := hrel
      have HBR := Lib.hid hb
      have hzw := hb.size
      clear hb
      by_cases hkn : k < n
      · have hkn' : (k : Int) < (n : Int) := by omega
        have hT := HT.out.below HBR.out
        have e1 := hT.row k hkn
        have e2 := hT.val k k hkn hkn
        have hlen := ascK_len (ipB mu) k
        have HSU := Lib.hid (ascK_succ (ipB mu) k)
        clear hT
        by_cases hs : mu k k = k
        · have hown' := hown
          have HON : Hid (ascK (ipB mu) (k + 1) = ascK (ipB mu) k ++ [(k : Int)]) := Lib.hid (by rw [HSU.out, if_pos (by simp [ipB, hs])])
          rw [hs] at e2
          clear hs HSU hown'
          go_wp2_with (at_builtin; refine wpList_append_own _ rfl _ _ 23 rfl w.heap.size 2 i0 (.int .i64 0) 1 8 Try.underlying23 hi hz0 hz1 hz2 rfl (by decide) _ _ _ rfl (hown.alloc _) ⟨wr.heap.size, 0, none⟩ 1 1 [.int .i64 k] rfl rfl ?c1 ?c2 ?c3 ?c4 ?c5 ?_)
          case c1 =>
            intro j u hj
            match j, hj with
            | 0, hj => simp at hj; subst hj; simp [Addr.add]
          case c2 => intro u hu; simp at hu; subst hu; rfl
          case c3 => unfold maxLen; omega
          case c4 => omega
          case c5 => simp; omega
          intro v' w2 hown' hgrow _
          have hown2 : Hid (w2.ownsRow w.heap.size 2 1 v' (ascK (ipB mu) (k + 1)).length ((ascK (ipB mu) (k + 1)).map (Value.int .i64))) := by
            refine Lib.hid ?_
            rw [HON.out]; simpa using hown'
          have hb2 : Hid (Below w.heap.size w w2) :=
            Lib.hid ((HBR.out.alloc hzw _).grown hgrow (by simp; omega) (fun b hbk => by
              rcases hown.2 with ⟨hv, _⟩ | ⟨g, cap, cur, hv, hg, _⟩
              · rw [hv] at hbk; cases hbk
              · rw [hv] at hbk; cases hbk; exact hg))
          have hz2 := hgrow.size
          simp at hz2
          clear hown' hgrow hown
          go_wp2_with fail
          go_roundw
          case rel => exact ⟨k + 1, by omega, by go_num, hown2.out, hb2.out, by omega⟩
          case measure => simp [intOf]; omega
        · have HON : Hid (ascK (ipB mu) (k + 1) = ascK (ipB mu) k) := Lib.hid (by rw [HSU.out, if_neg (by simp [ipB, hs])])
          have hq : ((mu k k : Int) == (k : Int)) = false := by simp; omega
          have hq2 : ¬ ((mu k k : Int) = (k : Int)) := by omega
          have HOW := Lib.hid hown
          clear hown hs HSU
          go_wp2_with fail
          go_roundw
          case rel => exact ⟨k + 1, by omega, by go_num, by rw [HON.out]; exact HOW.out, HBR.out, hzr⟩
          case measure => simp [intOf]; omega
      · obtain rfl : k = n := by omega
        have hle := ascK_len (ipB mu) k
        obtain ⟨a, cap, rfl, hrd⟩ := own_rd (L := ascK (ipB mu) k) hown (by omega)
        have HRD := Lib.hid hrd
        clear hown hrd
        go_wp2_with fail
        go_ret2
        exact ⟨a, cap, rfl, HRD.out, HBR.out⟩

set_option maxRecDepth 100000 in
set_option maxHeartbeats 2000000 in
theorem iIpn_any (LL : List (List Int)) (hn : LL.length ≤ 1048576) (hl : ∀ j, j < LL.length → (LL.getD j []).length ≤ 1048576) (a : Option Addr) (c : Nat) (w : World) (h : InRowL w a LL) :
    Calls Try.prog 39 #[.slice a LL.length c] w (RetRow w.heap.size (ipnL LL) (tblC LL) w) := by
  obtain ⟨i0, hi, hz0, hz1, hz2⟩ := info_parts info_int
  have HIS := Lib.hid fun w h => iis8_any LL hn hl a c w h
  cases hT : tblB LL
  · rw [ipnL_bad hT, tblC_bad hT]
    have HISW := HIS.out w h
    rw [hT] at HISW
    have HISW := Lib.hid HISW
    clear hT HIS h hl
    go_enter Try.func39, Try.ntmps39
    go_wp2_with fail
    refine HISW.out.mono ?_
    rintro e w1 ⟨rfl, hb⟩
    have HB := Lib.hid hb
    clear hb
    go_wp2_with fail
    go_ret2
    exact ⟨none, 0, rfl, ⟨by simp, Or.inl rfl⟩, HB.out⟩
  · have hTB := h.tbl hT
    have HN := tblB_n hT
    have HISW := HIS.out w h
    rw [hT] at HISW
    have HISW := Lib.hid HISW
    rw [ipnL_good hT, tblC_good hT]
    obtain ⟨b, off, gr, ro, cr, rfl, ht⟩ := hTB
    have HT := Lib.hid ht
    have hn40 := HN.2
    clear hT HIS h hl HN ht hn
    generalize LL.length = n at *
    generalize mp LL = mu at *
    go_enter Try.func39, Try.ntmps39
    go_wp2_with fail
    refine HISW.out.mono ?_
    rintro e w1 ⟨rfl, hb⟩
    have HB := Lib.hid hb
    have hsz := hb.size
    clear hb
    go_wp2_with fail
    go_loopw [4, 5, 11] (fun v _ i wr => ∃ k : Nat, k ≤ n ∧ i = .int .i64 k ∧ wr.ownsRow w.heap.size 2 1 v (ascK (ipB mu) k).length ((ascK (ipB mu) k).map (Value.int .i64)) ∧ Below w.heap.size w wr ∧ w1.heap.size ≤ wr.heap.size) (fun _ _ i _ => n - (intOf i).toNat)
    case atStart => exact ⟨0, by omega, rfl, World.ownsRow_nil _ _ _ _, HB.out, Nat.le_refl _⟩
    case round =>
      obtain ⟨k, hk, rfl, hown, hb, hzr⟩ := hrel
      have HBR := Lib.hid hb
      have hzw := hb.size
      clear hb
      by_cases hkn : k < n
      · have hkn' : (k : Int) < (n : Int) := by omega
        have hT := HT.out.below HBR.out
        have e1 := hT.row k hkn
        have e2 := hT.val k k hkn hkn
        have hlen := ascK_len (ipB mu) k
        have HSU := Lib.hid (ascK_succ (ipB mu) k)
        clear hT
        by_cases hs : mu k k = k
        · have hown' := hown
          have HON : Hid (ascK (ipB mu) (k + 1) = ascK (ipB mu) k ++ [(k : Int)]) := Lib.hid (by rw [HSU.out, if_pos (by simp [ipB, hs])])
          rw [hs] at e2
          clear hs HSU hown'
          go_wp2_with (at_builtin; refine wpList_append_own _ rfl _ _ 23 rfl w.heap.size 2 i0 (.int .i64 0) 1 8 Try.underlying23 hi hz0 hz1 hz2 rfl (by decide) _ _ _ rfl (hown.alloc _) ⟨wr.heap.size, 0, none⟩ 1 1 [.int .i64 k] rfl rfl ?c1 ?c2 ?c3 ?c4 ?c5 ?_)
          case c1 =>
            intro j u hj
            match j, hj with
            | 0, hj => simp at hj; subst hj; simp [Addr.add]
          case c2 => intro u hu; simp at hu; subst hu; rfl
          case c3 => unfold maxLen; omega
          case c4 => omega
          case c5 => simp; omega
          intro v' w2 hown' hgrow _
          have hown2 : Hid (w2.ownsRow w.heap.size 2 1 v' (ascK (ipB mu) (k + 1)).length ((ascK (ipB mu) (k + 1)).map (Value.int .i64))) := by
            refine Lib.hid ?_
            rw [HON.out]; simpa using hown'
          have hb2 : Hid (Below w.heap.size w w2) :=
            Lib.hid ((HBR.out.alloc hzw _).grown hgrow (by simp; omega) (fun b hbk => by
              rcases hown.2 with ⟨hv, _⟩ | ⟨g, cap, cur, hv, hg, _⟩
              · rw [hv] at hbk; cases hbk
              · rw [hv] at hbk; cases hbk; exact hg))
          have hz2 := hgrow.size
          simp at hz2
          clear hown' hgrow hown
          go_wp2_with fail
          go_roundw
          case rel => exact ⟨k + 1, by omega, by go_num, hown2.out, hb2.out, by omega⟩
          case measure => simp [intOf]; omega
        · have HON : Hid (ascK (ipB mu) (k + 1) = ascK (ipB mu) k) := Lib.hid (by rw [HSU.out, if_neg (by simp [ipB, hs])])
          have hq : ((mu k k : Int) == (k : Int)) = false := by simp; omega
          have hq2 : ¬ ((mu k k : Int) = (k : Int)) := by omega
          have HOW := Lib.hid hown
          clear hown hs HSU
          go_wp2_with fail
          go_roundw
          case rel => exact ⟨k + 1, by omega, by go_num, by rw [HON.out]; exact HOW.out, HBR.out, hzr⟩
          case measure => simp [intOf]; omega
      · obtain rfl : k = n := by omega
        have hle := ascK_len (ipB mu) k
        obtain ⟨a, cap, rfl, hrd⟩ := own_rd (L := ascK (ipB mu) k) hown (by omega)
        have HRD := Lib.hid hrd
        clear hown hrd
        go_wp2_with fail
        go_ret2
        exact ⟨a, cap, rfl, HRD.out, HBR.out⟩

end Go.Proofs.Ytgiefgbpcjoieaa
