/- slices.SortFunc at the lengths of cycles: they lie in descending order. The contract of impl.CycleType. -/
import Derived.Test.YtpphihjbgikjkaaCyt
import Derived.Test.YtpphihjbgikjkaaScy
import Derived.Test.YtpphihjbgikjkaaBas
import Derived.Test.YtpphihjbgikjkaaIcm
import Derived.Test.YtpphihjbgikjkaaSlyi
import Derived.Test.YtpphihjbgikjkaaTurn
namespace Go.Proofs.Ytpphihjbgikjkaa
open Go Go.RowKit

/-- An integer's cell. -/
def encI (x : Int) : Value := .int .i64 x
/-- How the closure tells two lengths apart. -/
def cfI (x y : Int) : Int := sg y x
theorem ltI (x y : Int) : ltOf cfI x y = decide (y < x) := by
  unfold ltOf cfI sg
  apply decide_eq_decide.2
  split
  · omega
  · split <;> omega
theorem swoI : Go.Sort.SWO (ltOf cfI) where
  irrefl x := by rw [ltI]; simp
  trans x y z h1 h2 := by rw [ltI] at *; simp at *; omega
  ntrans x y z h1 h2 := by rw [ltI] at *; simp at *; omega

theorem icc_any (x y : Int) (w : World) :
    Calls Try.prog 31 #[.int .i64 x, .int .i64 y] w fun e w' => e = .returned (.int .i64 (cfI x y)) ∧ w' = w := by
  have HC := Lib.hid (cmp_any y x w)
  unfold cfI
  go_enter Try.func31, Try.ntmps31
  go_wp2_with fail
  refine HC.out.mono ?_
  rintro e w ⟨rfl, rfl⟩
  go_wp2_with fail
  go_ret
  exact ⟨rfl, rfl⟩

theorem grow_none (w : World) : Go.Sort.grow (w.drewN 0) #[] = w := by
  cases w
  simp [Go.Sort.grow, World.drewN]

theorem cmpI (blk off size : Nat) (w : World) : CmpLays1 Try.prog 31 #[] encI cfI blk off size w := fun m os dk _ x y =>
  (icc_any x y _).mono fun _ _ ⟨h1, h2⟩ => ⟨h1, 0, #[], by rw [grow_none]; exact h2⟩

set_option maxRecDepth 100000 in
set_option maxHeartbeats 1000000 in
theorem sorti_any {w : World} {B g cap : Nat} {L : List Int} (hn : L.length ≤ 1000) (hown : Own w B (.slice (some ⟨g, 0, none⟩) L.length cap) L) :
    Calls Try.prog 30 #[.slice (some ⟨g, 0, none⟩) L.length cap, .func (.func 31) #[] #[]] w fun e w' =>
      e = .returned (.tuple #[]) ∧ ∃ M : List Int, M.Perm L ∧ dsc M ∧ Own w' B (.slice (some ⟨g, 0, none⟩) L.length cap) M ∧ Turn w w' (fun k => k = g) := by
  have hcell := fun i hi => own_cell hown (by omega) (i := i) hi
  rcases hown.2 with ⟨h1, _⟩ | ⟨g2, cap2, cur, h1, hB, hgb, hcn, hcap, hsz, htk⟩
  · cases h1
  injection h1 with h1 _ h3
  injection h1 with h1
  injection h1 with h1
  subst h1 h3
  have hgl := (Array.getElem?_eq_some_iff.1 hgb).1
  have hH : Go.Sort.Holds encI w g 0 L.toArray := fun j hj => by
    have hj' : j < L.length := by simpa using hj
    have h := hcell j hj'
    rw [show 0 + j = j by omega]
    refine ⟨?_, h.2⟩
    rw [h.1]
    simp [encI, hj', List.getD_eq_getElem?_getD]
  have eg : ∀ args w, (callFunc 31 args).run Try.prog w = .ok (.enter 31 args) w := enters_of Try.func31 (by kernel_rfl) rfl
  have hcon := Any.slices_SortFunc sortI encI (fun x => rfl) cfI swoI 31 #[] g 0 cap L.toArray w eg (cmpI g 0 L.toArray.size w) hH hgl (by simp; omega)
  change Calls Try.prog 30 _ _ _ at hcon
  rw [List.size_toArray] at hcon
  refine hcon.mono ?_
  rintro e w' ⟨he, d', n, os, hperm, hsort, rfl⟩
  have hsz2 : d'.size = L.length := by have := hperm.1; simpa using this
  have hp2 : d'.toList.Perm L := by
    have h := hperm.2.2
    have ht : List.take L.length d'.toList = d'.toList := List.take_of_length_le (by simp; omega)
    simp at h
    rw [ht] at h
    exact h
  have hblk : (Go.Sort.grow (Go.Sort.putRow encI (Go.Sort.ahead w n) g 0 d') os).heap[g]? = some (.cells (Go.Sort.putCells encI 0 d' cur) 2 (0, 0)) := by
    have hgl2 : g < (Go.Sort.putRow encI (Go.Sort.ahead w n) g 0 d').heap.size := by simp [Go.Sort.putRow, Go.Sort.mapBlock, Go.Sort.ahead]; exact hgl
    show ((Go.Sort.putRow encI (Go.Sort.ahead w n) g 0 d').heap ++ os)[g]? = _
    rw [Array.getElem?_append_left hgl2]
    simp [Go.Sort.putRow, Go.Sort.mapBlock, Go.Sort.ahead, Array.getElem?_modify, hgb, Go.Sort.onCells]
  refine ⟨he, d'.toList, hp2, ?_, ?_, ?_⟩
  · unfold dsc
    rw [List.pairwise_iff_getElem]
    intro i j hi hj hij
    simp at hi hj
    have h := hsort i j (Nat.zero_le _) hij (by omega)
    rw [ltI, decide_eq_false_iff_not] at h
    have e1 : d'[i]! = d'.toList[i] := by simp [hi]
    have e2 : d'[j]! = d'.toList[j] := by simp [hj]
    rw [e1, e2] at h
    omega
  · refine ⟨by rw [List.length_map]; simp, Or.inr ⟨g, cap, Go.Sort.putCells encI 0 d' cur, by simp [hsz2], hB, hblk, by simp; omega, hcap, by simp [Go.Sort.putCells]; omega, ?_⟩⟩
    apply List.ext_getElem?
    intro k
    by_cases hk : k < L.length
    · have hkc : k < cur.size := by omega
      have hkd : k < d'.size := by omega
      rw [List.getElem?_take, if_pos (by simp; omega), Array.getElem?_toList, List.getElem?_map, List.getElem?_eq_getElem (by simp; omega)]
      simp [Go.Sort.putCells, hkc, hkd, encI]
    · rw [List.getElem?_eq_none (by simp; omega), List.getElem?_eq_none (by simp; omega)]
  · refine ⟨rfl, rfl, rfl, ?_, fun k hk hS => ?_⟩
    · show w.heap.size ≤ ((Go.Sort.putRow encI (Go.Sort.ahead w n) g 0 d').heap ++ os).size
      simp [Go.Sort.putRow, Go.Sort.mapBlock, Go.Sort.ahead]
    · show ((Go.Sort.putRow encI (Go.Sort.ahead w n) g 0 d').heap ++ os)[k]? = _
      rw [Array.getElem?_append_left (by simp [Go.Sort.putRow, Go.Sort.mapBlock, Go.Sort.ahead]; exact hk)]
      simp [Go.Sort.putRow, Go.Sort.mapBlock, Go.Sort.ahead, Array.getElem?_modify, show ¬ g = k from fun e => hS e.symm]

theorem lnL_ne {n : Nat} {t : Nat → Int} (ht : isB (n : Int) t = true) : lnL t n ≠ [] := by
  obtain ⟨h1, _⟩ := isB_pts ht
  have hc := cyc_60 ht (x := 0) (by omega)
  have hcl := orb_lt ht 60 0 (by omega)
  generalize orb t 60 0 = c at *
  obtain ⟨⟨j, hj⟩, hmin⟩ := bsF_lst hc
  have hM : orb t 60 (orb t j c) = orb t j c := by rw [← orb_add, Nat.add_comm, orb_add, hc]
  have hb : bsF t (orb t j c) = (orb t j c : Int) := by
    refine lst_one (bsF_lst hM) ⟨⟨0, rfl⟩, fun i => ?_⟩
    rw [← orb_add, ← hj]
    exact hmin _
  have hlt := orb_lt ht j c (by omega)
  intro e
  have hm : (cyN t (orb t j c) : Int) ∈ lnL t n := by
    unfold lnL
    rw [List.mem_map]
    refine ⟨orb t j c, ?_, rfl⟩
    rw [List.mem_filter, List.mem_range, beq_iff_eq, hM]
    exact ⟨by omega, hb⟩
  rw [e] at hm
  cases hm

set_option maxRecDepth 100000 in
set_option maxHeartbeats 8000000 in
theorem iCyt_any (p : Int) (t : Nat → Int) (w : World) :
    Calls Try.prog 8 #[mv p t] w (RetRow w.heap.size (cytR p t) (ipC p t) w) := by
  have HL := fun w => iis_any p t w
  cases hv : isB p t
  · have e1 : cytR p t = [] := by unfold cytR; rw [if_neg (by rw [hv]; exact Bool.false_ne_true)]
    rw [e1, (bsR_no hv).2]
    rw [hv] at HL
    have HL := Lib.hid HL
    clear hv e1
    simp only [mv, mcells] at *
    go_enter Try.func8, Try.ntmps8
    go_wp2_with fail
    (refine (HL.out _).mono ?_; rintro e w1 ⟨rfl, hb⟩; obtain ⟨hc, hf⟩ := bcell hb; have hz := hb.size; have Hb := Lib.hid hb; (try simp at hz hc hf); (try (have hy := Nat.lt_of_succ_le hz)); have hz0 : w.heap.size < w1.heap.size := (by omega); clear hb)
    go_wp2_with fail
    go_ret2
    refine ⟨none, 0, rfl, ⟨by simp, Or.inl rfl⟩, ?_⟩
    (repeat' (first | (with_reducible exact Below.refl _ _) | (with_reducible refine Below.alloc ?_ ?_ _) | (with_reducible refine Below.setCell ?_ ?_ _) | (with_reducible refine Below.drew ?_) | (with_reducible refine below_drewN ?_ _) | (with_reducible refine Below.trans ?_ (Below.mono (Hid.out (by assumption)) ?_)) | omega | (simp; done) | (simp; omega)))
  obtain ⟨h1, h5⟩ := isB_pts hv
  obtain ⟨n, rfl⟩ := Int.eq_ofNat_of_zero_le (show 0 ≤ p by omega)
  have e1 : cytR (n : Int) t = cyL t n := by unfold cytR; rw [if_pos hv, Int.toNat_natCast]
  rw [e1, (bsR_yes hv).2]
  rw [hv] at HL
  have HL := Lib.hid HL
  obtain ⟨i0, hi, hz0, hz1, hz2⟩ := info_parts info_int
  have HV := Lib.hid hv
  have HQ := Lib.hid fun w => ibas_any n t hv w
  have HLen := Lib.hid (bsL_len t n)
  have HCY := Lib.hid fun c hc w => icyo_any n t hv c hc w
  have HSZ := Lib.hid fun a n cap w => iosz_any a n cap w
  obtain ⟨wz, hwz⟩ : ∃ wz, wz = w.alloc (.cells (mcells (n : Int) t) 28) := ⟨_, rfl⟩
  have HBX : Hid (wz.heap[w.heap.size]? = some (.cells (mcells (n : Int) t) 28 (0, 0))) := Lib.hid (by rw [hwz]; exact halloc_at _ _ _ rfl)
  have HBZ : Hid (Below w.heap.size w wz) := Lib.hid (by rw [hwz]; exact (Below.refl _ _).alloc (Nat.le_refl _) _)
  have hzz : wz.heap.size = w.heap.size + 1 := by rw [hwz]; simp
  have HWZ := Lib.hid hwz
  obtain ⟨x0, x1, x2, x3, x4, x5⟩ := blk6 HBX.out
  rw [hwz] at x0 x1 x2 x3 x4 x5
  clear hv e1 hwz
  simp only [mv, mcells] at *
  go_enter Try.func8, Try.ntmps8
  go_wp2_with fail
  rw [← HWZ.out]
  refine (HL.out _).mono ?_
  rintro e w1 ⟨rfl, hb⟩
  have HB1 := Lib.hid hb
  have hz1' := hb.size
  obtain ⟨y0, y1, y2, y3, y4, y5⟩ := blk6 ((hb.block w.heap.size (by omega)).trans HBX.out)
  have hlw1 : w.heap.size < w1.heap.size := by omega
  clear hb x0 x1 x2 x3 x4 x5
  go_wp2_with fail
  refine (HQ.out _).mono ?_
  rintro e w2 ⟨v2, rfl, hown, hb⟩
  obtain ⟨a2, c2, rfl, hrd⟩ := own_rd hown (by rw [HLen.out]; omega)
  rw [HLen.out]
  have HRD := Lib.hid hrd.inRow
  have HB2 : Hid (Below wz.heap.size wz w2) := Lib.hid (HB1.out.trans (hb.mono hz1'))
  have hz2' := HB2.out.size
  clear hown hrd hb y0 y1 y2 y3 y4 y5
  go_wp2_with fail
  go_loopw [4, 5, 6, 13] (fun v _ _ i wr => ∃ k : Nat, k ≤ n ∧ i = .int .i64 (k : Int) ∧ Own wr w2.heap.size v (lnL t k) ∧ Below w2.heap.size w2 wr) (fun _ _ _ i _ => n - (intOf i).toNat)
  case atStart => exact ⟨0, by omega, rfl, World.ownsRow_nil _ _ _ _, Below.refl _ _⟩
  case round =>
    obtain ⟨k, hk, rfl, hown, hb⟩ := hrel
    have HO := Lib.hid hown
    have HB := Lib.hid hb
    have hsr := hb.size
    have HSL := Lib.hid (lnL_len t k)
    have hbx2 : wr.heap[w.heap.size]? = some (.cells (mcells (n : Int) t) 28 (0, 0)) := (hb.block _ (by omega)).trans ((HB2.out.block _ (by omega)).trans HBX.out)
    have HBX2 := Lib.hid hbx2
    have hlr : w.heap.size < wr.heap.size := by omega
    clear hown hb hbx2
    obtain ⟨wo, hwo⟩ : ∃ wo, wo = wr := ⟨_, rfl⟩
    subst hwo
    by_cases hkn : k < n
    · have hkn' : (k : Int) < (n : Int) := by omega
      obtain ⟨bb, ob, rfl, hbb, hcb⟩ := (HRD.out.below HB.out).resolve_left (fun e => by have := HLen.out; rw [e] at this; simp at this; omega)
      have hx := hcb k (by rw [HLen.out]; exact hkn)
      rw [bsL_at t n k hkn] at hx
      have HLY := Lib.hid fun h => lnL_yes (t := t) (k := k) h
      have HLN := Lib.hid fun h => lnL_no (t := t) (k := k) h
      have HBC := Lib.hid fun h => bs_cyc HV.out hkn h
      clear hcb
      generalize bsF t (orb t 60 k) = M at *
      by_cases hM : M = (k : Int)
      · have HLY2 := Lib.hid (HLY.out hM)
        have HCL := Lib.hid fun E (hn : E.Nodup) hm => len_cyc HV.out hkn (HBC.out hM) (E := E) hn hm
        have hq : ((k : Int) == M) = true := by rw [hM]; simp
        obtain ⟨x0, x1, x2, x3, x4, x5⟩ := blk6 HBX2.out
        subst hM
        clear HLY HLN HBC
        go_wp2_with fail
        refine (HCY.out k hkn _).mono ?_
        rintro e w5 ⟨a5, c5, E, rfl, hrd5, horb, hb5⟩
        have hEl := HCL.out E horb.nd (orbt_mem horb)
        have HB5 : Hid (Below w2.heap.size w2 w5) := Lib.hid (HB.out.trans (hb5.mono hsr))
        have hz5 := hb5.size
        have HO5 : Hid (Own w5 w2.heap.size u4 (lnL t k)) := Lib.hid ((Turn.of_below (S := fun _ => False) hb5).own HO.out (fun _ _ h => h))
        have hcn := cyN_le t k
        rw [hEl]
        clear hrd5 horb hb5 hEl x0 x1 x2 x3 x4 x5 HCL
        generalize cyN t k = CN at *
        go_wp2_with fail
        refine (HSZ.out a5 CN c5 _).mono ?_
        rintro e w6 ⟨rfl, hb6⟩
        have HB6 : Hid (Below w2.heap.size w2 w6) := Lib.hid (HB5.out.trans (hb6.mono (by omega)))
        have hz6 := hb6.size
        have HO6 : Hid (Own w6 w2.heap.size u4 (lnL t k)) := Lib.hid ((Turn.of_below (S := fun _ => False) hb6).own HO5.out (fun _ _ h => h))
        clear hb6
        go_wp2_with (at_builtin; refine wpList_append_own _ rfl _ _ 25 rfl w2.heap.size 2 i0 (.int .i64 0) 1 8 Try.underlying25 hi hz0 hz1 hz2 rfl (by decide) _ _ _ rfl (World.ownsRow.alloc HO6.out _) ⟨w6.heap.size, 0, none⟩ 1 1 [.int .i64 (CN : Int)] rfl rfl (cell_one_new _ _ _) (by intro u hu; simp at hu; subst hu; rfl) (by have := HSL.out; unfold maxLen; omega) (by have := HSL.out; omega) (by simp; omega) ?_; intro v7 w7 ho7 hg7 _)
        have HO7 : Hid (Own w7 w2.heap.size v7 (lnL t (k + 1))) := Lib.hid (by rw [HLY2.out]; unfold Own; simpa using ho7)
        have HB7 : Hid (Below w2.heap.size w2 w7) := Lib.hid ((HB6.out.alloc (by omega) _).grown hg7 (by simp; omega) (fun r e => (HO6.out.lt r e).1))
        clear ho7 hg7
        go_roundw
        case rel => exact ⟨k + 1, by omega, by go_num, HO7.out, HB7.out⟩
        case measure => simp [intOf]; omega
      · have HLN2 := Lib.hid (HLN.out hM)
        have hne : ((k : Int) == M) = false := by simp; omega
        have hd : decide ((k : Int) = M) = false := by simp; omega
        clear hM HLY HLN HBC
        go_wp2_with fail
        go_roundw
        case rel => exact ⟨k + 1, by omega, by go_num, by rw [HLN2.out]; exact HO.out, HB.out⟩
        case measure => simp [intOf]; omega
    · obtain rfl : k = n := by omega
      have hkn' : ¬ ((k : Int) < (k : Int)) := by omega
      have hne := lnL_ne HV.out
      obtain ⟨g, cap, rfl, hg1, hg2⟩ := own_blk9 HO.out hne
      have HSO := Lib.hid (sorti_any (by have := HSL.out; omega) HO.out)
      have hmf : ∀ (fn : Fn) (first cap : Array Value) (w : World), (Instr.makeFunc fn first cap).run Try.prog w = .ok (.func fn first cap) w := fun _ _ _ _ => rfl
      clear hne
      go_wp2_with fail
      refine HSO.out.mono ?_
      rintro e w7 ⟨rfl, M, hpm, hdm, hom, htm⟩
      have hbw : Below w.heap.size w wo := HBZ.out.trans ((HB2.out.trans (HB.out.mono hz2')).mono (by omega))
      have HBE : Hid (Below w.heap.size w w7) := Lib.hid ⟨htm.os.trans hbw.os, htm.tape.trans hbw.tape, htm.output.trans hbw.output, Nat.le_trans hbw.size htm.size, fun j hj => (htm.block j (by have := hbw.size; omega) (by omega)).trans (hbw.block j hj)⟩
      have hM := cyL_one hpm hdm
      obtain ⟨a8, c8, e8, hrd8⟩ := own_rd hom (by rw [hpm.length_eq]; have := HSL.out; omega)
      injection e8 with e81 e82 e83
      subst e81 e83
      rw [hM] at hrd8 e82
      have HR8 := Lib.hid hrd8
      rw [e82]
      clear hbw hM hpm hdm hom htm hrd8 e82
      go_wp2_with fail
      go_ret2
      exact ⟨_, _, rfl, HR8.out.mono (by omega), HBE.out⟩

end Go.Proofs.Ytpphihjbgikjkaa
