/- The contracts of spec.UnitsOf and of (*monoid).elementsThat at isPermutation. -/
import Derived.Test.YtpkapgidpgmdoaaThat
import Derived.Test.YtpkapgidpgmdoaaInv
namespace Go.Proofs.Ytpkapgidpgmdoaa
open Go.RowKit Go.Maps

set_option maxRecDepth 100000 in
set_option maxHeartbeats 1000000 in
theorem suno_any (a : Option Addr) (c : Nat) (L : List MapN) (hl : L.length ≤ 1048576) (w : World) (hr : InRowM w a L) :
    Calls Try.prog 40 #[.slice a L.length c] w (RetRowM w.heap.size (filL (fun p c => permB p (dcd c)) L) (elsC L []) w) := by
  have HS := Lib.hid (sels_any a none c 0 L [] hl (by simp) w hr (Or.inl rfl))
  clear hr
  by_cases hc : elsC L [] = 0
  · have hg := (chk_good (elsC_good hc)).1
    have hle := elsK_300 hc hg
    have hvl := elsK_vld hg
    have hz := filL_good hc (q := fun p c => permB p (dcd c))
    have hk := elsL_0 hc (O := [])
    rw [hz]
    have hHS := HS.out
    rw [hc, hk] at hHS
    rw [hc]
    have HS := Lib.hid hHS
    have HVL := Lib.hid hvl
    clear hHS hz hk hg hc hvl
    generalize elsK L = K at *
    generalize fst0 L = p at *
    simp only [List.length_nil] at HS
    go_enter Try.func40, Try.ntmps40
    go_wp2_with fail
    refine HS.out.mono ?_
    rintro e w1 ⟨aK, cK, rfl, hrd, hb⟩
    rw [mE_len]
    have HB1 := Lib.hid hb
    have HRD := Lib.hid hrd
    have hs1 := hb.size
    clear hb hrd HS
    go_wp2_with fail
    go_loopw [6, 7] (fun v i wr => ∃ k : Nat, k ≤ K.length ∧ i = .int .i64 k ∧ Below w1.heap.size w1 wr ∧ OwnM wr w1.heap.size v (mE p ((K.take k).filter fun c => permB p (dcd c)))) (fun _ i _ => K.length - (intOf i).toNat)
    case atStart => exact ⟨0, by omega, rfl, (Below.refl _ _).alloc (Nat.le_refl _) _, own_emptyM (halloc_at _ _ _ rfl) (Nat.le_refl _)⟩
    case round =>
      obtain ⟨k, hk, rfl, hb, hown⟩ := hrel
      have HBR := Lib.hid hb
      have HOW := Lib.hid hown
      have hsr := hb.size
      clear hb hown
      by_cases hkl : k < K.length
      · have hkl' : (k : Int) < (K.length : Int) := by omega
        obtain ⟨b1, o1, rfl, hl1, hat1⟩ := (HRD.out.below HBR.out).inRow.at6 k (by rw [mE_len]; exact hkl)
        rw [mE_at _ _ _ hkl] at hat1
        have hfl := filt_le (fun c => permB p (dcd c)) K k
        have HFS := Lib.hid (filt_succ (fun c => permB p (dcd c)) K k hkl)
        have hv := HVL.out (K.getD k 0) (by rw [List.getD_eq_getElem?_getD, List.getElem?_eq_getElem hkl]; exact List.getElem_mem hkl)
        have hq := fun w => srank_any p (dcd (K.getD k 0)) hv.2 w
        clear hv
        obtain ⟨x0, x1, x2, x3, x4, x5⟩ := hat1
        simp only [] at x0 x1 x2 x3 x4 x5
        generalize hM : ((K.take k).filter fun c => permB p (dcd c)) = M at *
        generalize K.getD k 0 = x at *
        simp only [mv, mcells] at hq
        have HQ := Lib.hid hq
        clear hq
        have r0 : ∀ z, Below wr.heap.size wr z → z.cell? ⟨b1, o1 + k * 6, none⟩ = some (.int .i64 p) := fun z h => (h.cell (p := ⟨b1, _, none⟩) hl1).trans x0
        have r1 : ∀ z, Below wr.heap.size wr z → z.cell? ⟨b1, o1 + k * 6 + 1, none⟩ = some (.int .i64 (dcd x 0)) := fun z h => (h.cell (p := ⟨b1, _, none⟩) hl1).trans x1
        have r2 : ∀ z, Below wr.heap.size wr z → z.cell? ⟨b1, o1 + k * 6 + 2, none⟩ = some (.int .i64 (dcd x 1)) := fun z h => (h.cell (p := ⟨b1, _, none⟩) hl1).trans x2
        have r3 : ∀ z, Below wr.heap.size wr z → z.cell? ⟨b1, o1 + k * 6 + 3, none⟩ = some (.int .i64 (dcd x 2)) := fun z h => (h.cell (p := ⟨b1, _, none⟩) hl1).trans x3
        have r4 : ∀ z, Below wr.heap.size wr z → z.cell? ⟨b1, o1 + k * 6 + 4, none⟩ = some (.int .i64 (dcd x 3)) := fun z h => (h.cell (p := ⟨b1, _, none⟩) hl1).trans x4
        have r5 : ∀ z, Below wr.heap.size wr z → z.cell? ⟨b1, o1 + k * 6 + 5, none⟩ = some (.int .i64 (dcd x 4)) := fun z h => (h.cell (p := ⟨b1, _, none⟩) hl1).trans x5
        have hpb : ((asc (imgB p (dcd x))).length : Int) = p ↔ permB p (dcd x) = true := by unfold permB; simp
        obtain ⟨PB, hPB⟩ : ∃ PB, PB = permB p (dcd x) := ⟨_, rfl⟩
        have HPB := Lib.hid hPB
        rw [← hPB] at hpb
        clear hPB
        generalize ((asc (imgB p (dcd x))).length : Int) = RK at *
        have hpe : (RK == p) = PB := by cases PB <;> simp_all
        clear hpb x0 x1 x2 x3 x4 x5
        go_upto_region 8 with fail
        go_cut [33] from 21 to 40 (fun s33 wx => s33 = .bool PB ∧ Below wr.heap.size wr wx)
        case first =>
          go_region_held3 (fun w' => Below wr.heap.size wr w') (first | (with_reducible assumption) | ((repeat' (first | (with_reducible exact Below.refl _ _) | (with_reducible refine Below.alloc ?_ ?_ _) | (with_reducible refine Below.setCell ?_ ?_ _) | (with_reducible refine Below.drew ?_) | (with_reducible refine below_drewN ?_ _) | (with_reducible refine Below.trans ?_ (Below.mono (Hid.out (by assumption)) ?_)) | omega | (simp; done) | (simp; omega))); done)) (first | (go_at_call 82; (with_reducible refine (HQ.out _).mono ?_); rintro e w1 ⟨rfl, hb⟩; skip; obtain ⟨hc, hf⟩ := bcell hb; have hz := hb.size; have Hb := Lib.hid hb; (try simp at hz hc hf); (try (have hy := Nat.lt_of_succ_le hz)); have hz0 : wr.heap.size ≤ w1.heap.size := (by omega); (try (have hz1 : wr.heap.size < w1.heap.size := (by omega))); clear hb))
          all_goals (go_wp2_with fail)
          all_goals (go_meet)
          all_goals
            refine ⟨?_, ?_⟩
            · rw [← hpe]
            · (repeat' (first | (with_reducible exact Below.refl _ _) | (with_reducible refine Below.alloc ?_ ?_ _) | (with_reducible refine Below.setCell ?_ ?_ _) | (with_reducible refine Below.drew ?_) | (with_reducible refine below_drewN ?_ _) | (with_reducible refine Below.trans ?_ (Below.mono (Hid.out (by assumption)) ?_)) | omega | (simp; done) | (simp; omega)))
        case rest =>
          obtain ⟨rfl, hbc⟩ := hcut
          have HBC := Lib.hid hbc
          have hzc := hbc.size
          have y0 := r0 _ hbc
          have y1 := r1 _ hbc
          have y2 := r2 _ hbc
          have y3 := r3 _ hbc
          have y4 := r4 _ hbc
          have y5 := r5 _ hbc
          clear r0 r1 r2 r3 r4 r5 hpe hbc
          have HO3 := Lib.hid (ownM_bel HOW.out HBC.out)
          have HB4 : Hid (Below w1.heap.size w1 (wc.alloc (.cells (mcells p (dcd x)) 39))) := Lib.hid ((HBR.out.trans (HBC.out.mono hsr)).alloc (by omega) _)
          cases PB with
          | true =>
            go_wp2_with (at_builtin; refine wpList_appM rfl _ _ rfl w1.heap.size _ (mE p M) rfl (ownM_bel HO3.out ((Below.refl _ _).alloc (Nat.le_refl _) _)) (some ⟨wc.heap.size, 0, none⟩) 1 [(p, dcd x)] (fun e => by cases e) rfl (Or.inr ⟨_, 0, rfl, by simp, at_one (halloc_at _ _ _ rfl)⟩) (by rw [mE_len]; simp; omega) (by simp; omega) ?_; intro v4 w4 hown4 hgrow4; have HO4 := Lib.hid hown4; have HB5 := Lib.hid (HB4.out.grown hgrow4 HB4.out.size (fun q e => (HO3.out.lt q e).1)); clear hown4 hgrow4)
            go_roundw
            case rel => exact ⟨k + 1, by omega, by go_num, HB5.out, by rw [HFS.out, if_pos HPB.out.symm, mE_app]; exact HO4.out⟩
            case measure => simp [intOf]; omega
          | false =>
            go_wp2_with fail
            go_roundw
            case rel => exact ⟨k + 1, by omega, by go_num, HBR.out.trans (HBC.out.mono hsr), by rw [HFS.out, if_neg (by rw [← HPB.out]; decide), List.append_nil]; exact HO3.out⟩
            case measure => simp [intOf]; omega
      · obtain rfl : k = K.length := by omega
        have hfl := filt_le (fun c => permB p (dcd c)) K K.length
        rw [List.take_length] at HOW hfl
        obtain ⟨a2, cap2, rfl, hr2⟩ := ownM_rd HOW.out (by rw [mE_len]; omega)
        have HR2 := Lib.hid hr2
        clear hr2
        go_wp2_with fail
        go_ret2
        exact ⟨a2, cap2, rfl, HR2.out.mono hs1, HB1.out.trans (HBR.out.mono hs1)⟩
  · have hz := filL_bad hc (q := fun p c => permB p (dcd c))
    have hk := elsL_1 hc (O := [])
    rw [hz]
    have hHS := HS.out
    rw [hk] at hHS
    have HS := Lib.hid hHS
    clear hHS hz hk
    generalize elsC L [] = C at *
    have hcb : (C != 0) = true := by simpa using hc
    simp only [List.length_nil] at HS
    go_enter Try.func40, Try.ntmps40
    go_wp2_with fail
    refine HS.out.mono ?_
    rintro e w1 ⟨aK, cK, rfl, _, hb⟩
    have HB := Lib.hid hb
    clear hb
    go_wp2_with fail
    go_ret2
    exact ⟨none, 0, rfl, ⟨by simp, Or.inl rfl⟩, HB.out⟩

set_option maxRecDepth 100000 in
set_option maxHeartbeats 1000000 in
theorem thatP_any {p : Int} {K : List Nat} (hK : ∀ c ∈ K, vld p c) (hn : K.length ≤ 300) (b gE cE B : Nat) (mo : Option Nat) (w : World)
    (hm : w.heap[b]? = some (.cells #[.slice (some ⟨gE, 0, none⟩) K.length cE, .map mo] 71 (0, 0))) (hp : PutRow w B gE cE (mE p K)) :
    Calls Try.prog 83 #[.pointer (some ⟨b, 0, none⟩), .func (.func 84) #[] #[]] w
      fun e w' => ∃ a cap, e = .returned (.slice a (K.filter fun c => permB p (dcd c)).length cap) ∧ RdM w' w.heap.size a (mE p (K.filter fun c => permB p (dcd c))) ∧ Below w.heap.size w w' := by
  have HVL := Lib.hid hK
  have HP := Lib.hid hp
  have m0 := Joins.cell_of_block hm 0
  simp only [List.getElem?_toArray, List.getElem?_cons_zero] at m0
  clear hK hp hm
  go_enter Try.func83, Try.ntmps83
  go_wp2_with fail
  go_loopw [5, 7, 13] (fun v _ i wr => ∃ k : Nat, k ≤ K.length ∧ i = .int .i64 k ∧ Below w.heap.size w wr ∧ OwnM wr w.heap.size v (mE p ((K.take k).filter fun c => permB p (dcd c)))) (fun _ _ i _ => K.length - (intOf i).toNat)
  case atStart => exact ⟨0, by omega, rfl, Below.refl _ _, ownM_nil⟩
  case round =>
    obtain ⟨k, hk, rfl, hb, hown⟩ := hrel
    have HBR := Lib.hid hb
    have HOW := Lib.hid hown
    have hsr := hb.size
    clear hb hown
    by_cases hkl : k < K.length
    · have hkl' : (k : Int) < (K.length : Int) := by omega
      obtain ⟨b1, o1, eb, hl1, hat1⟩ := (HP.out.below HBR.out).inRow.at6 k (by rw [mE_len]; exact hkl)
      injection eb with eb
      injection eb with eb1 eb2 _
      subst eb1 eb2
      rw [mE_at _ _ _ hkl] at hat1
      have hfl := filt_le (fun c => permB p (dcd c)) K k
      have HFS := Lib.hid (filt_succ (fun c => permB p (dcd c)) K k hkl)
      have hv := HVL.out (K.getD k 0) (by rw [List.getD_eq_getElem?_getD, List.getElem?_eq_getElem hkl]; exact List.getElem_mem hkl)
      have hq := fun w => iperm_any p (dcd (K.getD k 0)) hv.2 w
      clear hv
      obtain ⟨x0, x1, x2, x3, x4, x5⟩ := hat1
      simp only [Nat.zero_add] at x0 x1 x2 x3 x4 x5
      generalize hM : ((K.take k).filter fun c => permB p (dcd c)) = M at *
      generalize K.getD k 0 = x at *
      simp only [mv, mcells] at hq
      have HQ := Lib.hid hq
      clear hq
      by_cases hi : permB p (dcd x) = true
      · have hq2 := HQ.out
        rw [hi] at hq2
        have HQ := Lib.hid hq2
        clear hq2
        go_wp2_with fail
        refine (HQ.out _).mono ?_
        rintro e w3 ⟨rfl, hb3⟩
        have hbk := (hb3.block wr.heap.size (by simp)).trans (halloc_at _ _ _ rfl)
        have hba : Below wr.heap.size wr w3 := ((Below.refl _ _).alloc (Nat.le_refl _) _).trans (hb3.mono (by simp))
        have HB3 := Lib.hid hba
        have hs3 := hba.size
        have HO3 := Lib.hid (ownM_bel HOW.out hba)
        obtain ⟨y0, y1, y2, y3, y4, y5⟩ := blk6 hbk
        clear hb3 hbk hba x0 x1 x2 x3 x4 x5
        have HB4 : Hid (Below w.heap.size w (w3.alloc (.cells (mcells p (dcd x)) 39))) := Lib.hid ((HBR.out.trans (HB3.out.mono hsr)).alloc (by omega) _)
        go_wp2_with (at_builtin; refine wpList_appM rfl _ _ rfl w.heap.size _ (mE p M) rfl (ownM_bel HO3.out ((Below.refl _ _).alloc (Nat.le_refl _) _)) (some ⟨w3.heap.size, 0, none⟩) 1 [(p, dcd x)] (fun e => by cases e) rfl (Or.inr ⟨_, 0, rfl, by simp, at_one (halloc_at _ _ _ rfl)⟩) (by rw [mE_len]; simp; omega) (by simp; omega) ?_; intro v4 w4 hown4 hgrow4; have HO4 := Lib.hid hown4; have HB5 := Lib.hid (HB4.out.grown hgrow4 HB4.out.size (fun q e => (HO3.out.lt q e).1)); clear hown4 hgrow4)
        go_roundw
        case rel => exact ⟨k + 1, by omega, by go_num, HB5.out, by rw [HFS.out, if_pos hi, mE_app]; exact HO4.out⟩
        case measure => simp [intOf]; omega
      · have hi' : permB p (dcd x) = false := by simpa using hi
        have hq2 := HQ.out
        rw [hi'] at hq2
        have HQ := Lib.hid hq2
        clear hq2
        go_wp2_with fail
        refine (HQ.out _).mono ?_
        rintro e w3 ⟨rfl, hb3⟩
        have hba : Below wr.heap.size wr w3 := ((Below.refl _ _).alloc (Nat.le_refl _) _).trans (hb3.mono (by simp))
        have HB3 := Lib.hid hba
        have hs3 := hba.size
        clear hb3 hba
        go_wp2_with fail
        go_roundw
        case rel => exact ⟨k + 1, by omega, by go_num, HBR.out.trans (HB3.out.mono hsr), by rw [HFS.out, if_neg hi, List.append_nil]; exact ownM_bel HOW.out HB3.out⟩
        case measure => simp [intOf]; omega
    · obtain rfl : k = K.length := by omega
      have hfl := filt_le (fun c => permB p (dcd c)) K K.length
      rw [List.take_length] at HOW hfl
      obtain ⟨a2, cap2, rfl, hr2⟩ := ownM_rd HOW.out (by rw [mE_len]; omega)
      have HR2 := Lib.hid hr2
      clear hr2
      rw [mE_len]
      go_wp2_with fail
      go_ret
      exact ⟨a2, cap2, rfl, HR2.out, HBR.out⟩

end Go.Proofs.Ytpkapgidpgmdoaa
