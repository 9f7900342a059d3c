/- The contract of impl.setsInOrder at sets. -/
import Derived.Test.YtpphihjbgikjkaaSos
import Derived.Test.YtpphihjbgikjkaaIvo
import Derived.Test.YtpphihjbgikjkaaNsi
namespace Go.Proofs.Ytpphihjbgikjkaa
open Go Go.RowKit

/-- A list of sets that came in, at some place of its block. -/
def InPo (w : World) (a : Option Addr) (F : List Nat) : Prop :=
  ∃ b off, a = some ⟨b, off, none⟩ ∧ b < w.heap.size ∧ ∀ j, j < F.length → ∀ i, i < 5 → w.cell? ⟨b, off + j * 5 + i, none⟩ = some (.bool (btF (F.getD j 0) i))

theorem InPo.below {w w' : World} {a : Option Addr} {F : List Nat} (h : InPo w a F) (hb : Below w.heap.size w w') : InPo w' a F := by
  obtain ⟨b, off, ha, hlt, hc⟩ := h
  exact ⟨b, off, ha, Nat.lt_of_lt_of_le hlt hb.size, fun j hj i hi => (hb.cell (p := ⟨b, off + j * 5 + i, none⟩) hlt).trans (hc j hj i hi)⟩

theorem below_turn {w wo w' : World} {g : Nat} (hb : Below w.heap.size w wo) (ht : Turn wo w' (fun k => k = g)) (hg : w.heap.size ≤ g) : Below w.heap.size w w' :=
  ⟨ht.os.trans hb.os, ht.tape.trans hb.tape, ht.output.trans hb.output, Nat.le_trans hb.size ht.size, fun k hk => (ht.block k (Nat.lt_of_lt_of_le hk hb.size) (by omega)).trans (hb.block k hk)⟩

theorem take_oneS (l : List Nat) (k : Nat) (h : k < l.length) : (l.take (k + 1)).map lsT = (l.take k).map lsT ++ [lsT (l.getD k 0)] := by
  rw [List.take_add_one, List.getElem?_eq_getElem h, List.getD_eq_getElem?_getD, List.getElem?_eq_getElem h, List.map_append]
  rfl

set_option maxRecDepth 100000 in
set_option maxHeartbeats 4000000 in
theorem isio_any (F : List Nat) (hF : 0 < F.length) (hn : F.length ≤ 1000) (h32 : ∀ m ∈ F, m < 32) (h1 : ∀ m ∈ F, 1 ≤ m) (a : Option Addr) (c : Nat) (w : World) (hr : InPo w a F) :
    Calls Try.prog 48 #[.slice a F.length c, .func (.func 38) #[] #[]] w fun e w' =>
      ∃ (v : Value) (us : List Value) (M : List Nat), e = .returned v ∧ M.Perm F ∧ (M.Pairwise fun a b => kyT a ≤ kyT b) ∧ Trw w' w.heap.size v us (M.map lsT) ∧ Below w.heap.size w w' := by
  have HR := Lib.hid hr
  have H32 := Lib.hid h32
  have H1 := Lib.hid h1
  have HSO := Lib.hid fun (B : Nat) w (g cap : Nat) (us : List Value) h => sortr_any (w := w) (B := B) (g := g) (cap := cap) (us := us) hn hF h32 h
  clear hr h32 h1
  obtain ⟨m, hm⟩ : ∃ m, m = F.length := ⟨_, rfl⟩
  rw [← hm] at hF hn HSO ⊢
  have HM := Lib.hid hm
  clear hm
  go_enter Try.func48, Try.ntmps48
  go_wp2_with fail
  go_loopw [5, 7, 10] (fun v _ i wr => ∃ (k : Nat) (us : List Value), k ≤ m ∧ i = .int .i64 (k : Int) ∧ Trw wr w.heap.size v us ((F.take k).map lsT) ∧ Below w.heap.size w wr) (fun _ _ i _ => m - (intOf i).toNat)
  case atStart => exact ⟨0, [], by omega, rfl, (trn_nil _ _).trw (fun j hj => by simp at hj), Below.refl _ _⟩
  case round =>
    obtain ⟨k, us, hk, rfl, ht, hb⟩ := hrel
    have HT := Lib.hid ht
    have HB := Lib.hid hb
    have hsr := hb.size
    clear ht hb
    obtain ⟨wo, hwo⟩ : ∃ wo, wo = wr := ⟨_, rfl⟩
    subst hwo
    by_cases hkm : k < m
    · have hkm' : (k : Int) < (m : Int) := by omega
      have hkF : k < F.length := by rw [← HM.out]; exact hkm
      obtain ⟨b, off, rfl, hlt, hin⟩ := HR.out.below HB.out
      have x0 := hin k hkF 0 (by omega)
      have x1 := hin k hkF 1 (by omega)
      have x2 := hin k hkF 2 (by omega)
      have x3 := hin k hkF 3 (by omega)
      have x4 := hin k hkF 4 (by omega)
      rw [Nat.add_zero] at x0
      have HTK := Lib.hid (take_oneS F k hkF)
      have HTL : Hid (((F.take k).map lsT).length ≤ 1000) := Lib.hid (by rw [List.length_map, List.length_take]; omega)
      have HNE : Hid (lsT (F.getD k 0) ≠ []) := Lib.hid (by
        have hmem : F.getD k 0 ∈ F := by rw [List.getD_eq_getElem?_getD, List.getElem?_eq_getElem hkF]; exact List.getElem_mem hkF
        exact lsT_ne _ (H32.out _ hmem) (H1.out _ hmem))
      have HASC := Lib.hid fun w => asc_any (btF (F.getD k 0)) w
      rw [show asc (btF (F.getD k 0)) = lsT (F.getD k 0) from rfl] at HASC
      clear hin hkF
      generalize lsT (F.getD k 0) = R at *
      generalize btF (F.getD k 0) = s at *
      generalize (F.take k).map lsT = T1 at *
      simp only [cells5] at HASC
      go_wp2_with fail
      refine (HASC.out _).mono ?_
      rintro e w3 ⟨v3, rfl, hown, hb⟩
      obtain ⟨gu, cu, rfl, hgu, hgul⟩ := own_blk hown HNE.out
      have HOW := Lib.hid hown
      have HB3 : Hid (Below w.heap.size w w3) := Lib.hid ((HB.out.alloc hsr _).trans (hb.mono (by simp; omega)))
      have hz3 := hb.size
      simp only [World.size_alloc] at hz3 hgu
      have HT3 : Hid (Trw w3 w.heap.size u5 us T1) := Lib.hid ((HT.out.below ((Below.refl _ _).alloc (Nat.le_refl _) _)).below hb)
      have HNW : Hid (∀ i, i < T1.length → (us.getD i undef).ownBlock ≠ (Value.slice (some ⟨gu, 0, none⟩) R.length cu).ownBlock) := Lib.hid fun i hi e => by
        obtain ⟨g2, c2, e2, _, hl2⟩ := own_blk (HT.out.row i hi) (HT.out.full i hi)
        rw [e2] at e
        simp [Value.ownBlock] at e
        omega
      clear hown hb
      go_wp2_with (at_builtin; refine wpList_appT rfl _ _ rfl w.heap.size _ us T1 rfl (HT3.out.below ((Below.refl _ _).alloc (Nat.le_refl _) _)) w3.heap.size 1 _ R ((Turn.of_below (S := fun _ => False) ((Below.refl _ _).alloc (Nat.le_refl _) _)).own (Joins.ownsRow_le HOW.out (by simp; omega)) (fun _ _ h => h)) HNE.out HNW.out rfl (halloc_at _ _ _ rfl) HTL.out (by simp; omega) ?_; intro v4 w4 hown4 hgrow4; have HO4 := Lib.hid hown4; have HB5 := Lib.hid ((HB3.out.alloc (by omega) _).grown hgrow4 (by simp; omega) (fun q e => (World.ownsRow.lt HT3.out.own q e).1)); clear hown4 hgrow4)
      go_roundw
      case rel => exact ⟨k + 1, _, by omega, by go_num, by rw [HTK.out]; exact HO4.out, HB5.out⟩
      case measure => simp [intOf]; omega
    · obtain rfl : k = m := by omega
      have hkm' : ¬ ((k : Int) < (k : Int)) := by omega
      have hta : F.take k = F := List.take_of_length_le (by rw [HM.out]; exact Nat.le_refl _)
      rw [hta] at HT
      obtain ⟨g, cap, e5, hg1, hg2, _, _⟩ := HT.out.trn.cell (c := 0) (by rw [List.length_map, ← HM.out]; exact hF)
      rw [List.length_map, ← HM.out] at e5
      subst e5
      have HSX := Lib.hid (HSO.out w.heap.size _ g cap us HT.out)
      clear hta
      go_wp2_with fail
      refine HSX.out.mono ?_
      rintro e w6 ⟨rfl, M, us', hp, hs, ht, htu⟩
      have HP := Lib.hid hp
      have HS := Lib.hid hs
      have HT6 := Lib.hid ht
      have HB6 := Lib.hid (below_turn HB.out htu hg1)
      clear hp hs ht htu
      go_wp2_with fail
      go_ret
      exact ⟨_, us', M, rfl, HP.out, HS.out, HT6.out, HB6.out⟩
end Go.Proofs.Ytpphihjbgikjkaa
