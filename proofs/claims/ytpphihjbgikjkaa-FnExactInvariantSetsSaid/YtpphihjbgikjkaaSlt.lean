/- The contract of spec.l10Lists. -/
import Derived.Test.YtpphihjbgikjkaaIvk
import Derived.Test.YtpphihjbgikjkaaOio
import Derived.Test.YtpphihjbgikjkaaPoints
import Derived.Test.YtpphihjbgikjkaaIis
namespace Go.Proofs.Ytpphihjbgikjkaa
open Go Go.RowKit

set_option maxRecDepth 100000 in
set_option maxHeartbeats 4000000 in
theorem slis_any (S : List Nat) (h32 : ∀ m ∈ S, m < 32) (h1 : ∀ m ∈ S, 1 ≤ m) (hS : S.length ≤ 32) (a : Option Addr) (c : Nat) (w : World) (hr : InRow w a (inJ S)) :
    Calls Try.prog 43 #[.slice a S.length c] w fun e w' => ∃ (v : Value) (us : List Value), e = .returned v ∧ Trw w' w.heap.size v us (S.map lsT) ∧ Below w.heap.size w w' := by
  have HIN := Lib.hid hr
  have H32 := Lib.hid h32
  have H1 := Lib.hid h1
  clear hr h32 h1
  obtain ⟨m, hm⟩ : ∃ m, m = S.length := ⟨_, rfl⟩
  rw [← hm] at hS ⊢
  have HM := Lib.hid hm
  clear hm
  go_enter Try.func43, Try.ntmps43
  go_wp2_with fail
  go_loopw [3, 4] (fun v i wr => ∃ (k : Nat) (us : List Value), k ≤ m ∧ i = .int .i64 (k : Int) ∧ Trw wr w.heap.size v us ((S.take k).map lsT) ∧ Below w.heap.size w wr) (fun _ i _ => m - (intOf i).toNat)
  case atStart => exact ⟨0, [], by omega, rfl, trw_nil _ _ (Nat.le_refl _), (Below.refl _ _).alloc (Nat.le_refl _) _⟩
  case round =>
    obtain ⟨k, us, hk, rfl, ht, hb⟩ := hrel
    have HT := Lib.hid ht
    have HB := Lib.hid hb
    have hsr := hb.size
    clear ht hb
    obtain ⟨wo, hwo⟩ : ∃ wo, wo = wr := ⟨_, rfl⟩
    subst hwo
    by_cases hkm : k < m
    · have hkm' : (k : Int) < (m : Int) := by omega
      have hkS : k < S.length := by rw [← HM.out]; exact hkm
      obtain ⟨b, off, rfl, hbl, hcs⟩ := (HIN.out.below HB.out).resolve_left (fun e => by have := inJ_len S; rw [e] at this; simp at this; omega)
      have hx := hcs k (by rw [inJ_len]; exact hkS)
      rw [inJ_at S k hkS] at hx
      have hmem : S.getD k 0 ∈ S := by rw [List.getD_eq_getElem?_getD, List.getElem?_eq_getElem hkS]; exact List.getElem_mem hkS
      have HSP := Lib.hid fun w => spoints_any (btF (S.getD k 0)) w
      rw [bt_mask _ (H32.out _ hmem), show asc (btF (S.getD k 0)) = lsT (S.getD k 0) from rfl] at HSP
      have HTK := Lib.hid (take_oneS S k hkS)
      have HTL : Hid (((S.take k).map lsT).length ≤ 1000) := Lib.hid (by rw [List.length_map, List.length_take]; omega)
      have HNE : Hid (lsT (S.getD k 0) ≠ []) := Lib.hid (lsT_ne _ (H32.out _ hmem) (H1.out _ hmem))
      clear hcs hkS hmem
      generalize (S.take k).map lsT = T1 at *
      generalize lsT (S.getD k 0) = R at *
      generalize S.getD k 0 = M at *
      go_wp2_with fail
      refine (HSP.out _).mono ?_
      rintro e w3 ⟨v3, rfl, hown, hb⟩
      obtain ⟨gu, cu, rfl, hgu, hgul⟩ := own_blk hown HNE.out
      have HOW := Lib.hid hown
      have HB3 := Lib.hid hb
      have hz3 := hb.size
      have HT3 : Hid (Trw w3 w.heap.size u3 us T1) := Lib.hid (HT.out.below hb)
      have HNW : Hid (∀ i, i < T1.length → (us.getD i undef).ownBlock ≠ (Value.slice (some ⟨gu, 0, none⟩) R.length cu).ownBlock) := Lib.hid fun i hi e => by
        obtain ⟨g2, c2, e2, _, hl2⟩ := own_blk (HT.out.row i hi) (HT.out.full i hi)
        rw [e2] at e
        simp [Value.ownBlock] at e
        omega
      clear hown hb
      go_wp2_with (at_builtin; refine wpList_appT rfl _ _ rfl w.heap.size _ us T1 rfl (HT3.out.below ((Below.refl _ _).alloc (Nat.le_refl _) _)) w3.heap.size 1 _ R ((Turn.of_below (S := fun _ => False) ((Below.refl _ _).alloc (Nat.le_refl _) _)).own (Joins.ownsRow_le HOW.out hsr) (fun _ _ h => h)) HNE.out HNW.out rfl (halloc_at _ _ _ rfl) HTL.out (by simp; omega) ?_; intro v4 w4 hown4 hgrow4; have HO4 := Lib.hid hown4; have HB5 := Lib.hid (((HB.out.trans (HB3.out.mono hsr)).alloc (by omega) _).grown hgrow4 (by simp; omega) (fun q e => (World.ownsRow.lt HT3.out.own q e).1)); clear hown4 hgrow4)
      go_roundw
      case rel => exact ⟨k + 1, _, by omega, by go_num, by rw [HTK.out]; exact HO4.out, HB5.out⟩
      case measure => simp [intOf]; omega
    · obtain rfl : k = m := by omega
      have hkm' : ¬ ((k : Int) < (k : Int)) := by omega
      have hta : S.take k = S := List.take_of_length_le (by rw [HM.out]; exact Nat.le_refl _)
      rw [hta] at HT
      clear hta
      go_wp2_with fail
      go_ret
      exact ⟨_, rfl, ⟨us, HT.out⟩, HB.out⟩
end Go.Proofs.Ytpphihjbgikjkaa
