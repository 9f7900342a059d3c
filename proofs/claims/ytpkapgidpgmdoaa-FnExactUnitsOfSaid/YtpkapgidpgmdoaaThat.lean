/- The contracts of (*monoid).elementsThat at isIdempotent and of impl.IdempotentsOf. -/
import Derived.Test.YtpkapgidpgmdoaaFilt
namespace Go.Proofs.Ytpkapgidpgmdoaa
open Go.RowKit Go.Maps

theorem ownM_nil {w : World} {B : Nat} : OwnM w B (.slice none 0 0) [] := ⟨by simp [mcels_nil], Or.inl ⟨rfl, rfl⟩⟩

set_option maxRecDepth 100000 in
set_option maxHeartbeats 1000000 in
theorem thatI_any {p : Int} {K : List Nat} (hK : ∀ c ∈ K, vld p c) (hn : K.length ≤ 300) (b gE cE B : Nat) (mo : Option Nat) (w : World)
    (hm : w.heap[b]? = some (.cells #[.slice (some ⟨gE, 0, none⟩) K.length cE, .map mo] 71 (0, 0))) (hp : PutRow w B gE cE (mE p K)) :
    Calls Try.prog 83 #[.pointer (some ⟨b, 0, none⟩), .func (.func 90) #[] #[]] w
      fun e w' => ∃ a cap, e = .returned (.slice a (K.filter fun c => idemB p (dcd c)).length cap) ∧ RdM w' w.heap.size a (mE p (K.filter fun c => idemB p (dcd c))) ∧ Below w.heap.size w w' := by
  have HVL := Lib.hid hK
  have HP := Lib.hid hp
  have m0 := Joins.cell_of_block hm 0
  simp only [List.getElem?_toArray, List.getElem?_cons_zero] at m0
  clear hK hp hm
  go_enter Try.func83, Try.ntmps83
  go_wp2_with fail
  go_loopw [5, 7, 13] (fun v _ i wr => ∃ k : Nat, k ≤ K.length ∧ i = .int .i64 k ∧ Below w.heap.size w wr ∧ OwnM wr w.heap.size v (mE p ((K.take k).filter fun c => idemB p (dcd c)))) (fun _ _ i _ => K.length - (intOf i).toNat)
  case atStart => exact ⟨0, by omega, rfl, Below.refl _ _, ownM_nil⟩
  case round =>
    obtain ⟨k, hk, rfl, hb, hown⟩ := hrel
    have HBR := Lib.hid hb
    have HOW := Lib.hid hown
    have hsr := hb.size
    clear hb hown
    by_cases hkl : k < K.length
    · have hkl' : (k : Int) < (K.length : Int) := by omega
      obtain ⟨b1, o1, eb, hl1, hat1⟩ := (HP.out.below HBR.out).inRow.at6 k (by rw [mE_len]; exact hkl)
      injection eb with eb
      injection eb with eb1 eb2 _
      subst eb1 eb2
      rw [mE_at _ _ _ hkl] at hat1
      have hfl := filt_le (fun c => idemB p (dcd c)) K k
      have HFS := Lib.hid (filt_succ (fun c => idemB p (dcd c)) K k hkl)
      have hv := HVL.out (K.getD k 0) (by rw [List.getD_eq_getElem?_getD, List.getElem?_eq_getElem hkl]; exact List.getElem_mem hkl)
      have hq := fun w => iidem_any p (dcd (K.getD k 0)) hv.2 w
      clear hv
      obtain ⟨x0, x1, x2, x3, x4, x5⟩ := hat1
      simp only [Nat.zero_add] at x0 x1 x2 x3 x4 x5
      generalize hM : ((K.take k).filter fun c => idemB p (dcd c)) = M at *
      generalize K.getD k 0 = x at *
      simp only [mv, mcells] at hq
      have HQ := Lib.hid hq
      clear hq
      by_cases hi : idemB p (dcd x) = true
      · have hq2 := HQ.out
        rw [hi] at hq2
        have HQ := Lib.hid hq2
        clear hq2
        go_wp2_with fail
        refine (HQ.out _).mono ?_
        rintro e w3 ⟨rfl, hb3⟩
        have hbk := (hb3.block wr.heap.size (by simp)).trans (halloc_at _ _ _ rfl)
        have hba : Below wr.heap.size wr w3 := ((Below.refl _ _).alloc (Nat.le_refl _) _).trans (hb3.mono (by simp))
        have HB3 := Lib.hid hba
        have hs3 := hba.size
        have HO3 := Lib.hid (ownM_bel HOW.out hba)
        obtain ⟨y0, y1, y2, y3, y4, y5⟩ := blk6 hbk
        clear hb3 hbk hba x0 x1 x2 x3 x4 x5
        have HB4 : Hid (Below w.heap.size w (w3.alloc (.cells (mcells p (dcd x)) 39))) := Lib.hid ((HBR.out.trans (HB3.out.mono hsr)).alloc (by omega) _)
        go_wp2_with (at_builtin; refine wpList_appM rfl _ _ rfl w.heap.size _ (mE p M) rfl (ownM_bel HO3.out ((Below.refl _ _).alloc (Nat.le_refl _) _)) (some ⟨w3.heap.size, 0, none⟩) 1 [(p, dcd x)] (fun e => by cases e) rfl (Or.inr ⟨_, 0, rfl, by simp, at_one (halloc_at _ _ _ rfl)⟩) (by rw [mE_len]; simp; omega) (by simp; omega) ?_; intro v4 w4 hown4 hgrow4; have HO4 := Lib.hid hown4; have HB5 := Lib.hid (HB4.out.grown hgrow4 HB4.out.size (fun q e => (HO3.out.lt q e).1)); clear hown4 hgrow4)
        go_roundw
        case rel => exact ⟨k + 1, by omega, by go_num, HB5.out, by rw [HFS.out, if_pos hi, mE_app]; exact HO4.out⟩
        case measure => simp [intOf]; omega
      · have hi' : idemB p (dcd x) = false := by simpa using hi
        have hq2 := HQ.out
        rw [hi'] at hq2
        have HQ := Lib.hid hq2
        clear hq2
        go_wp2_with fail
        refine (HQ.out _).mono ?_
        rintro e w3 ⟨rfl, hb3⟩
        have hba : Below wr.heap.size wr w3 := ((Below.refl _ _).alloc (Nat.le_refl _) _).trans (hb3.mono (by simp))
        have HB3 := Lib.hid hba
        have hs3 := hba.size
        clear hb3 hba
        go_wp2_with fail
        go_roundw
        case rel => exact ⟨k + 1, by omega, by go_num, HBR.out.trans (HB3.out.mono hsr), by rw [HFS.out, if_neg hi, List.append_nil]; exact ownM_bel HOW.out HB3.out⟩
        case measure => simp [intOf]; omega
    · obtain rfl : k = K.length := by omega
      have hfl := filt_le (fun c => idemB p (dcd c)) K K.length
      rw [List.take_length] at HOW hfl
      obtain ⟨a2, cap2, rfl, hr2⟩ := ownM_rd HOW.out (by rw [mE_len]; omega)
      have HR2 := Lib.hid hr2
      clear hr2
      rw [mE_len]
      go_wp2_with fail
      go_ret
      exact ⟨a2, cap2, rfl, HR2.out, HBR.out⟩

theorem thatI_nil (b : Nat) (mo : Option Nat) (fv : Value) (w : World)
    (hm : w.heap[b]? = some (.cells #[.slice none 0 0, .map mo] 71 (0, 0))) :
    Calls Try.prog 83 #[.pointer (some ⟨b, 0, none⟩), fv] w
      fun e w' => e = .returned (.slice none 0 0) ∧ w' = w := by
  have m0 := Joins.cell_of_block hm 0
  simp only [List.getElem?_toArray, List.getElem?_cons_zero] at m0
  clear hm
  go_enter Try.func83, Try.ntmps83
  go_wp2_with fail
  refine wp_loop_rounds 1 ?_
  rw [rounds_succ]
  go_wp2_with fail
  go_ret
  exact ⟨rfl, rfl⟩

end Go.Proofs.Ytpkapgidpgmdoaa
