/- The contracts of impl.LeadPoint and spec.LeadPoint. -/
import Derived.Test.YthdjajelbpccpaaDoorWk
import Derived.Test.YthdjajelbpccpaaDoorSl
namespace Go.Proofs.YthdjajelbpccpaaDoor
open Go Go.RowKit

/-- The points to which the first k beginnings of a word lead p. -/
def ldL (L : List MapN) (W : List Int) (p : Int) (k : Nat) : List Int := (List.range k).map fun j => wrdK L W j p.toNat

theorem ldL_len (L : List MapN) (W : List Int) (p : Int) (k : Nat) : (ldL L W p k).length = k := by simp [ldL]
theorem ldL_succ (L : List MapN) (W : List Int) (p : Int) (k : Nat) : ldL L W p (k + 1) = ldL L W p k ++ [wrdK L W k p.toNat] := by simp [ldL, List.range_succ]

def leadC (L : List MapN) (W : List Int) (p : Int) : Int := c5C L W [p]
def leadL (L : List MapN) (W : List Int) (p : Int) : List Int := if leadC L W p = 0 then ldL L W p (W.length + 1) else []

theorem inB_out {p n : Int} (h : inB p 0 (n - 1) = true) : 0 ≤ p ∧ p < n := by have := inB_true.1 h; omega

theorem leadC_good {L : List MapN} {W : List Int} {p : Int} (h : w5C L W = 0) (h0 : 0 ≤ p) (h1 : p < fst0 L) : leadC L W p = 0 := by
  unfold leadC c5C p5B
  rw [if_pos h]
  simp [inB_true.2 (show 0 ≤ p ∧ p ≤ fst0 L - 1 by omega)]

theorem leadC_out {L : List MapN} {W : List Int} {p : Int} (h : w5C L W = 0) (h1 : ¬ (0 ≤ p ∧ p < fst0 L)) : leadC L W p = 2 := by
  have hb : inB p 0 (fst0 L - 1) = false := by
    rw [Bool.eq_false_iff]; intro hb; exact h1 (inB_out hb)
  unfold leadC c5C p5B
  rw [if_pos h]
  simp [hb]

theorem leadC_bad {L : List MapN} {W : List Int} {p : Int} (h : w5C L W ≠ 0) : leadC L W p = w5C L W := by
  unfold leadC c5C; rw [if_neg h]

theorem leadL_good {L : List MapN} {W : List Int} {p : Int} (h : leadC L W p = 0) : leadL L W p = ldL L W p (W.length + 1) := by unfold leadL; rw [if_pos h]
theorem leadL_bad {L : List MapN} {W : List Int} {p : Int} (h : leadC L W p ≠ 0) : leadL L W p = [] := by unfold leadL; rw [if_neg h]

set_option maxRecDepth 1000000 in
set_option maxHeartbeats 4000000 in
theorem iLead_any (L : List MapN) (hl1 : L.length ≤ 1048576) (W : List Int) (hl2 : W.length ≤ 1048576) (p : Int) (a1 : Option Addr) (c1 : Nat) (hc1 : a1 = none → c1 = 0) (a2 : Option Addr) (c2 : Nat) (w : World) (hr1 : InRowM w a1 L) (hr2 : InRow w a2 W) (hE : Er w) :
    Calls Tryd.prog 12 #[.slice a1 L.length c1, .slice a2 W.length c2, .int .i64 p] w (RetRow w.heap.size (leadL L W p) (leadC L W p) w) := by
  obtain ⟨i0, hi, hz0, hz1, hz2⟩ := info_parts info_int
  by_cases hC : w5C L W = 0
  · have HW := Lib.hid fun wx (hb : Below w.heap.size w wx) => walk_good L hl1 W hl2 hC a1 c1 hc1 a2 c2 wx (hr1.below hb) (hr2.below hb)
    obtain ⟨hck, hbel, hw40⟩ := w5C_zero hC
    obtain ⟨hgood, hs1, hs6⟩ := good_of hck
    obtain ⟨hp1, hp5, hgk⟩ := hgood
    have HOK := Lib.hid fun k hk => wrdK_ok (L := L) (W := W) ⟨hp1, hp5, hgk⟩ k hk
    have HBW := Lib.hid fun k hk => belB_at hbel k hk
    have hpos : 0 < L.length := by omega
    have hf0 : (L.getD 0 z0).1 = fst0 L := rfl
    obtain ⟨b, off, rfl, hbl, hat0⟩ := hr1.at0 hpos
    have HAT := Lib.hid hat0
    by_cases hp0 : p < 0
    · have e1 := leadC_out (p := p) hC (by omega)
      have e2 := leadL_bad (L := L) (W := W) (p := p) (by omega)
      rw [e1, e2]
      clear hr1 hr2 hE hC hck hbel hgk e1 e2 hat0 hf0
      go_enter Tryd.func12, Tryd.ntmps12
      go_wp2_with fail
      refine (HW.out _ (by (repeat' (first | (with_reducible exact Below.refl _ _) | (with_reducible refine Below.alloc ?_ ?_ _) | (with_reducible refine Below.setCell ?_ ?_ _) | (with_reducible refine Below.drew ?_) | (with_reducible refine below_drewN ?_ _) | (with_reducible refine Below.trans ?_ (Below.mono (Hid.out (by assumption)) ?_)) | omega | (simp; done) | (simp; omega))))).mono ?_
      rintro e w1 ⟨v, rfl, hown, hb⟩
      have HB := Lib.hid hb
      clear hown hb HW
      go_wp2_with fail
      go_ret2
      exact ⟨none, 0, rfl, ⟨by simp, Or.inl rfl⟩, HB.out⟩
    · by_cases hpn : p < fst0 L
      · have e1 := leadC_good (p := p) hC (by omega) hpn
        have e2 := leadL_good (L := L) (W := W) (p := p) e1
        rw [e1, e2]
        have hge : ¬ (p ≥ fst0 L) := by omega
        obtain ⟨q, rfl⟩ := Int.eq_ofNat_of_zero_le (show 0 ≤ p by omega)
        have hq5 : q < 5 := by omega
        have hq5' : (q : Int) < 5 := by omega
        have hSUC := Lib.hid fun k => ldL_succ L W (q : Int) k
        clear hr1 hr2 hE hC hck hbel hgk e1 e2 hat0 hf0
        go_enter Tryd.func12, Tryd.ntmps12
        go_wp2_with fail
        refine (HW.out _ (by (repeat' (first | (with_reducible exact Below.refl _ _) | (with_reducible refine Below.alloc ?_ ?_ _) | (with_reducible refine Below.setCell ?_ ?_ _) | (with_reducible refine Below.drew ?_) | (with_reducible refine below_drewN ?_ _) | (with_reducible refine Below.trans ?_ (Below.mono (Hid.out (by assumption)) ?_)) | omega | (simp; done) | (simp; omega))))).mono ?_
        rintro e w1 ⟨v, rfl, hown, hb⟩
        obtain ⟨a, cap, rfl, hrd⟩ := ownM_rd hown (by rw [begL_len]; omega)
        have HRD := Lib.hid hrd
        have HB := Lib.hid hb
        have hsz := hb.size
        obtain ⟨x0, -, -, -, -, -⟩ := show At6 w1 b off (L.getD 0 z0) from by
          have h := HAT.out
          unfold At6 at h ⊢
          rw [hb.cell (p := ⟨b, _, none⟩) hbl, hb.cell (p := ⟨b, _, none⟩) hbl, hb.cell (p := ⟨b, _, none⟩) hbl, hb.cell (p := ⟨b, _, none⟩) hbl, hb.cell (p := ⟨b, _, none⟩) hbl, hb.cell (p := ⟨b, _, none⟩) hbl]
          exact h
        rw [show (L.getD 0 z0).1 = fst0 L from rfl] at x0
        rw [begL_len]
        obtain ⟨N, hN⟩ : ∃ N, N = W.length + 1 := ⟨_, rfl⟩
        have hN9 : N ≤ 41 := by omega
        have HAT6 : Hid (∀ k, k < N → ∃ g, a = some ⟨g, 0, none⟩ ∧ g < w1.heap.size ∧ At6 w1 g (k * 6) (fst0 L, wrdK L W k)) := Lib.hid fun k hk => by
          rcases hrd.2 with h0 | ⟨g, ha, _, hg, _, _⟩
          · have := begL_len L W W.length; rw [h0] at this; simp at this
          · obtain ⟨g', ha', hat⟩ := hrd.at6 k (by rw [begL_len]; omega)
            rw [ha] at ha'; cases ha'
            rw [begL_at L W W.length k (by omega)] at hat
            exact ⟨g, ha, hg, hat⟩
        rw [← hN]
        have HN := Lib.hid hN
        clear hown hrd hb hN HAT
        go_wp2_with fail
        go_loopw [10, 12, 34] (fun v _ i wr => ∃ k : Nat, k ≤ N ∧ i = .int .i64 k ∧ Own wr w1.heap.size v (ldL L W q k) ∧ Below w1.heap.size w1 wr) (fun _ _ i _ => N - (intOf i).toNat)
        case atStart => exact ⟨0, by omega, rfl, World.ownsRow_nil _ _ _ _, Below.refl _ _⟩
        case round =>
          clear x0
          obtain ⟨k, hk, rfl, hown, hb⟩ := hrel
          have hszr := hb.size
          have HBr := Lib.hid hb
          by_cases hkn : k < N
          · have hkn' : (k : Int) < (N : Int) := by omega
            obtain ⟨g, rfl, hg, hat⟩ := HAT6.out k hkn
            have hat' : At6 wr g (k * 6) (fst0 L, wrdK L W k) := by
              unfold At6 at hat ⊢
              rw [hb.cell (p := ⟨g, _, none⟩) hg, hb.cell (p := ⟨g, _, none⟩) hg, hb.cell (p := ⟨g, _, none⟩) hg, hb.cell (p := ⟨g, _, none⟩) hg, hb.cell (p := ⟨g, _, none⟩) hg, hb.cell (p := ⟨g, _, none⟩) hg]
              exact hat
            obtain ⟨y0, y1, y2, y3, y4, y5⟩ := hat'
            have HSU := Lib.hid (hSUC.out k)
            have hbox := halloc_at wr (.cells (mcells (fst0 L) (wrdK L W k)) 54) _ rfl
            have hfk := blk_at hbox q hq5
            have HLEN := Lib.hid (ldL_len L W (q : Int) k)
            have HHB := Lib.hid (hown.alloc (.cells (mcells (fst0 L) (wrdK L W k)) 54))
            clear hat hb hbox
            simp only [Int.toNat_natCast] at HSU
            generalize ldL L W (q : Int) k = R0 at *
            generalize wrdK L W k = T at *
            go_wp2_with (at_builtin; refine wpList_append_own _ rfl _ _ 23 rfl w1.heap.size 2 i0 (.int .i64 0) 1 8 Tryd.underlying23 hi hz0 hz1 hz2 rfl (by decide) _ _ _ rfl (HHB.out.alloc _) ⟨wr.heap.size + 1, 0, none⟩ 1 1 [.int .i64 (T q)] rfl rfl ?d1 ?d2 ?d3 ?d4 ?d5 ?_)
            case d2 => first | rfl | (intro u hu; simp at hu; subst hu; rfl)
            case d3 => unfold maxLen; rw [HLEN.out]; omega
            case d4 => rw [HLEN.out]; omega
            case d5 => first | omega | (simp; omega)
            intro v' w2 hown' hgrow _
            have hown2 : Hid (Own w2 w1.heap.size v' (ldL L W (q : Int) (k + 1))) := by
              refine Lib.hid ?_
              rw [HSU.out]
              unfold Own
              simpa using hown'
            have hb2 : Hid (Below w1.heap.size w1 w2) :=
              Lib.hid (((HBr.out.alloc hszr _).alloc (by rw [World.size_alloc]; omega) _).grown hgrow (by simp; omega) (fun b hbk => by
                rcases hown.2 with ⟨hv, _⟩ | ⟨g, cap, cur, hv, hg, _⟩
                · rw [hv] at hbk; cases hbk
                · rw [hv] at hbk; cases hbk; exact hg))
            clear hown' hgrow hown HHB
            go_wp2_with fail
            go_roundw
            case rel => exact ⟨k + 1, by omega, by go_num, hown2.out, hb2.out⟩
            case measure => simp [intOf]; omega
          · obtain rfl : k = N := by omega
            have HOW := Lib.hid hown
            clear hown hb
            go_wp2_with fail
            have hlen := ldL_len L W (q : Int) k
            obtain ⟨ax, cx, hv, hrd⟩ := own_rd HOW.out (by omega)
            subst hv
            have HRX := Lib.hid hrd
            clear hrd
            go_ret2
            refine ⟨ax, cx, ?_, ?_, HB.out.trans (HBr.out.mono hsz)⟩
            · rw [← HN.out]; rfl
            · rw [← HN.out]; exact HRX.out.mono hsz
      · have e1 := leadC_out (p := p) hC (by omega)
        have e2 := leadL_bad (L := L) (W := W) (p := p) (by omega)
        rw [e1, e2]
        have hge : fst0 L ≤ p := by omega
        clear hr1 hr2 hE hC hck hbel hgk e1 e2 hat0 hf0
        go_enter Tryd.func12, Tryd.ntmps12
        go_wp2_with fail
        refine (HW.out _ (by (repeat' (first | (with_reducible exact Below.refl _ _) | (with_reducible refine Below.alloc ?_ ?_ _) | (with_reducible refine Below.setCell ?_ ?_ _) | (with_reducible refine Below.drew ?_) | (with_reducible refine below_drewN ?_ _) | (with_reducible refine Below.trans ?_ (Below.mono (Hid.out (by assumption)) ?_)) | omega | (simp; done) | (simp; omega))))).mono ?_
        rintro e w1 ⟨v, rfl, hown, hb⟩
        have HB := Lib.hid hb
        have x0 := (hb.cell (p := ⟨b, off, none⟩) hbl).trans HAT.out.1
        rw [show (L.getD 0 z0).1 = fst0 L from rfl] at x0
        clear hown hb HW HAT
        go_wp2_with fail
        go_ret2
        exact ⟨none, 0, rfl, ⟨by simp, Or.inl rfl⟩, HB.out⟩
  · have e1 := leadC_bad (p := p) hC
    have e2 := leadL_bad (L := L) (W := W) (p := p) (by rw [e1]; exact hC)
    rw [e1, e2]
    have HW := Lib.hid fun wx (hb : Below w.heap.size w wx) => walk_err L hl1 W hl2 hC a1 c1 hc1 a2 c2 wx (hr1.below hb) (hr2.below hb) (hE.bel hb)
    have hne : (w5C L W != 0) = true := by simpa using hC
    clear hr1 hr2 hE hC e1 e2
    generalize w5C L W = C at *
    go_enter Tryd.func12, Tryd.ntmps12
    go_wp2_with fail
    refine (HW.out _ (by (repeat' (first | (with_reducible exact Below.refl _ _) | (with_reducible refine Below.alloc ?_ ?_ _) | (with_reducible refine Below.setCell ?_ ?_ _) | (with_reducible refine Below.drew ?_) | (with_reducible refine below_drewN ?_ _) | (with_reducible refine Below.trans ?_ (Below.mono (Hid.out (by assumption)) ?_)) | omega | (simp; done) | (simp; omega))))).mono ?_
    rintro e w1 ⟨rfl, hb⟩
    have HB := Lib.hid hb
    clear hb HW
    go_wp2_with fail
    go_ret2
    exact ⟨none, 0, rfl, ⟨by simp, Or.inl rfl⟩, HB.out⟩

end Go.Proofs.YthdjajelbpccpaaDoor
