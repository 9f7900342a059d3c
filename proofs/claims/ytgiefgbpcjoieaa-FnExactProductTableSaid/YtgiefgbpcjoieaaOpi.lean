/- The contract of impl.OppositeTable. -/
import Derived.Test.YtgiefgbpcjoieaaTby
import Derived.Test.YtgiefgbpcjoieaaOpp
namespace Go.Proofs.Ytgiefgbpcjoieaa
open Go Go.RowKit

theorem RdT.low {w : World} {B B2 C : Nat} {a : Option Addr} {LL : List (List Int)} (h : RdT w B2 C a LL) (hB : B ≤ B2) : RdT w B C a LL := by
  refine ⟨h.len, h.rlen, h.top, ?_⟩
  rcases h.rows with h0 | ⟨g, gr, ro, h1, h2, h3, h4, h5⟩
  · exact Or.inl h0
  · refine Or.inr ⟨g, gr, ro, h1, by omega, h3, h4, fun j hj => ?_⟩
    obtain ⟨⟨ar, c, q1, q2⟩, q3, q4⟩ := h5 j hj
    refine ⟨⟨ar, c, q1, ?_⟩, q3, q4⟩
    rcases q2 with q2 | ⟨q2, q5, q6, q7⟩
    · exact Or.inl q2
    · exact Or.inr ⟨q2, q5, by omega, q7⟩

theorem retT_of {w w' : World} {B B2 n : Nat} {a : Option Addr} {cap : Nat} {LL : List (List Int)} {C : Int} (hl : LL.length = n) (hr : RdT w' B2 w'.heap.size a LL) (hB : B ≤ B2) (hm : mkF LL 1 ≤ 20000000) (hb : Below w.heap.size w w') : RetT B LL C w (.returned (.tuple #[.slice a n cap, .int .i64 C])) w' := by
  subst hl
  exact ⟨a, cap, rfl, hr.low hB, hm, hb⟩

set_option maxRecDepth 100000 in
set_option maxHeartbeats 2000000 in
theorem opq_any (n : Nat) (_ : n ≤ 40) (mu : Nat → Nat → Nat) (f : Nat → Nat → Int) (hf : ∀ x y, f x y = (mu y x : Int)) (bx b off : Nat) (gr ro cr : Nat → Nat) (c : Nat) (w : World) (hx : w.heap[bx]? = some (.cells #[.slice (some ⟨b, off, none⟩) n c] 43 (0, 0))) (ht : Tbi w b off gr ro cr n mu) :
    Tells2 w n f 81 #[.pointer (some ⟨bx, 0, none⟩)] := by
  intro i j hi hj z hz
  have hT := ht.below hz
  have e0 := Joins.cell_of_block ((hz.block _ (Array.getElem?_eq_some_iff.1 hx).1).trans hx) 0
  simp only [List.getElem?_toArray, List.getElem?_cons_zero] at e0
  have e1 := hT.row j hj
  have e2 := hT.val j i hj hi
  have hi' : (i : Int) < (n : Int) := by omega
  have hj' : (j : Int) < (n : Int) := by omega
  have HV := Lib.hid (hf i j)
  clear hT ht hx hz hf
  generalize mu j i = X at *
  simp only [List.append_toArray, List.cons_append, List.nil_append]
  go_enter Try.func81, Try.ntmps81
  go_wp2_with fail
  go_ret
  exact ⟨ret_i HV.out.symm, Below.refl _ _⟩

theorem opq_enters : ∀ args w, (callFunc 81 args).run Try.prog w = .ok (.enter 81 args) w := enters_of Try.func81 (by kernel_rfl) rfl

set_option maxRecDepth 100000 in
set_option maxHeartbeats 4000000 in
theorem iOpp_any (LL : List (List Int)) (hn : LL.length ≤ 1048576) (hl : ∀ j, j < LL.length → (LL.getD j []).length ≤ 1048576) (a : Option Addr) (c : Nat) (w : World) (h : InRowL w a LL) :
    Calls Try.prog 47 #[.slice a LL.length c] w (RetT w.heap.size (opL LL) (tblC LL) w) := by
  have HIS := Lib.hid fun wx (hb : Below w.heap.size w wx) => iis8_any LL hn hl a c wx (h.below hb)
  cases hT : tblB LL
  · rw [hT] at HIS
    rw [opL_bad hT, tblC_bad hT]
    clear hT h hl
    go_enter Try.func47, Try.ntmps47
    go_wp2_with fail
    refine (HIS.out _ ((Below.refl _ _).alloc (Nat.le_refl _) _)).mono ?_
    rintro e w1 ⟨rfl, hb⟩
    have HB := Lib.hid hb
    clear hb
    go_wp2_with fail
    go_ret2
    exact retT_nil (((Below.refl _ _).alloc (Nat.le_refl _) _).trans (HB.out.mono (by simp))) 2
  rw [hT] at HIS
  have hTB := h.tbl hT
  have HN := tblB_n hT
  rw [opL_good hT, tblC_good hT]
  obtain ⟨b, off, gr, ro, cr, rfl, ht⟩ := hTB
  have HT := Lib.hid ht
  have hn1 := HN.1
  have hn40 := HN.2
  have HF : Hid (∀ x y, opF LL x y = (mp LL y x : Int)) := Lib.hid fun _ _ => rfl
  have HLN := Lib.hid (tbL_len (opF LL) LL.length LL.length)
  clear hT h hl ht hn HN
  generalize opF LL = f at *
  generalize LL.length = n at *
  generalize mp LL = mu at *
  go_enter Try.func47, Try.ntmps47
  go_wp2_with fail
  refine (HIS.out _ ((Below.refl _ _).alloc (Nat.le_refl _) _)).mono ?_
  rintro e w1 ⟨rfl, hb⟩
  have hsz := hb.size
  simp at hsz
  have HB : Hid (Below w.heap.size w w1) := Lib.hid (((Below.refl _ _).alloc (Nat.le_refl _) _).trans (hb.mono (by simp)))
  have hbx : w1.heap[w.heap.size]? = some (.cells #[.slice (some ⟨b, off, none⟩) n c] 43 (0, 0)) := (hb.block _ (by simp)).trans (halloc_at _ _ _ rfl)
  have e0 := Joins.cell_of_block hbx 0
  simp only [List.getElem?_toArray, List.getElem?_cons_zero] at e0
  have HTE := Lib.hid (opq_any n hn40 mu f HF.out w.heap.size b off gr ro cr c w1 hbx (HT.out.below HB.out))
  have HTY := Lib.hid (tby_any n hn1 (by omega) f opq_enters w1 HTE.out)
  clear hb HIS hbx HTE
  go_wp2_with fail
  refine HTY.out.mono ?_
  rintro e w2 ⟨a2, c2, rfl, hr, hb⟩
  have HR := Lib.hid hr
  have HB2 : Hid (Below w.heap.size w w2) := Lib.hid (HB.out.trans (hb.mono (by omega)))
  clear hr hb
  go_wp2_with fail
  go_ret2
  exact retT_of HLN.out HR.out (by omega) (mkF_tb300 f (by omega)) HB2.out

end Go.Proofs.Ytgiefgbpcjoieaa
