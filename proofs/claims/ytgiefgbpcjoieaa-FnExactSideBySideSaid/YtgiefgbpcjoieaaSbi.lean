/- The contract of impl.SideBySide. -/
import Derived.Test.YtgiefgbpcjoieaaSbs
import Derived.BigQuiet
namespace Go.Proofs.Ytgiefgbpcjoieaa
open Go Go.RowKit

theorem step_appMS {w : World} {ops : Array Oper} {o : Oper} {ac : Act} {K : Act → World → Prop} {Q : Exit → Act → World → Prop} {E : Prop} (hgd : o.guard = none) (s x : Operand)
    (ho : o.op = .call { callee := .builtin .append, args := #[s, x], argTypes := #[27, 27] })
    (base : Nat) (v : Value) (M : List MapN) (hs : ac.eval s = v) (hown : OwnM w base v M)
    (b off c : Nat) (L : List MapN) (hx : ac.eval x = .slice (some ⟨b, off, none⟩) L.length c) (hr : ∀ j, j < L.length → AtM w b off j (L.getD j z0))
    (hlen : M.length + L.length ≤ 2000000) (hbase : base ≤ w.heap.size)
    (h : ∀ v' w', OwnM w' base v' (M ++ L) → w.grownBy w' v.ownBlock → (v'.ownBlock = v.ownBlock ∨ v'.ownBlock = some w.heap.size) → K (ac.put o.dst v') w') :
    if Region.wanted o (yielded ops ac.tmps) = true then Oper.wp Try.prog o ac w K Q else E := by
  obtain ⟨i0, hi, hz0, hz1, hz2⟩ := info_parts info_map
  have hw : Region.wanted o (yielded ops ac.tmps) = true := by simp [Region.wanted, hgd]
  rw [if_pos hw]
  obtain ⟨v', w', hrun, h2, h3, _, h4⟩ := run_append_own_at (P := Try.prog) w base 27 o.type 71 i0 _ 6 48 Try.underlying27 hi hz0 hz1 hz2 rfl (by decide) v M.length (mcels M) hown ⟨b, off, none⟩ L.length c (mcels L) (mcels_len L) (rowM_cells hr) (mcels_one L) (by unfold maxLen; omega) (by omega) hbase
  unfold Oper.wp
  simp [execOp, ho, resolve, invoke, builtin, hs, hx, hrun, Result.andThen]
  refine h v' w' ?_ h3 h4
  unfold OwnM
  rw [mcels_app, List.length_append]
  exact h2

theorem chk_one {A : List MapN} : chkC A [] = 1 ↔ allB A = false := by
  unfold chkC
  rw [List.append_nil]
  cases allB A
  · simp
  · simp only [if_true]
    split
    · split <;> simp
    · simp

set_option maxRecDepth 100000 in
set_option maxHeartbeats 8000000 in
theorem iSbs_any (A : List MapN) (hl1 : A.length ≤ 1048576) (B : List MapN) (hl2 : B.length ≤ 1048576) (a1 : Option Addr) (c1 : Nat) (hc1 : a1 = none → c1 = 0) (a2 : Option Addr) (c2 : Nat) (hc2 : a2 = none → c2 = 0) (w : World) (h1 : InRowM w a1 A) (h2 : InRowM w a2 B) :
    Calls Try.prog 57 #[.slice a1 A.length c1, .slice a2 B.length c2] w (RetMs8 w.heap.size (sbL A B) (sbC A B) w) := by
  have HA := Lib.hid fun wx (hb : Below w.heap.size w wx) => ams_any A (by omega) a1 c1 wx (h1.below hb)
  have HB := Lib.hid fun wx (hb : Below w.heap.size w wx) => ams_any B (by omega) a2 c2 wx (h2.below hb)
  have HC := Lib.hid fun wx (hb : Below w.heap.size w wx) => check_any a1 none c1 0 A [] hc1 (fun _ => rfl) hl1 (by simp) wx (h1.below hb) (Or.inl rfl)
  have HD := Lib.hid fun wx (hb : Below w.heap.size w wx) => check_any a2 none c2 0 B [] hc2 (fun _ => rfl) hl2 (by simp) wx (h2.below hb) (Or.inl rfl)
  simp only [List.length_nil] at HC HD
  cases hA : allB A
  · have q1 : chkC A [] = 1 ∨ chkC B [] = 1 := Or.inl (chk_one.2 hA)
    rw [sbL_no (by rw [sbC_1 q1]; decide), sbC_1 q1]
    rw [hA] at HA
    clear hA q1 h1 h2
    go_enter Try.func57, Try.ntmps57
    go_wp2_with fail
    refine (HA.out _ (Below.refl _ _)).mono ?_
    rintro e w1 ⟨rfl, hb⟩
    have HW1 : Hid (Below w.heap.size w w1) := Lib.hid (hb)
    have hz1 := HW1.out.size
    clear hb
    go_wp2_with fail
    go_ret2
    exact retMs8_nil HW1.out 1
  cases hB : allB B
  · have q1 : chkC A [] = 1 ∨ chkC B [] = 1 := Or.inr (chk_one.2 hB)
    rw [sbL_no (by rw [sbC_1 q1]; decide), sbC_1 q1]
    rw [hA] at HA
    rw [hB] at HB
    clear hA hB q1 h1 h2
    go_enter Try.func57, Try.ntmps57
    go_wp2_with fail
    refine (HA.out _ (Below.refl _ _)).mono ?_
    rintro e w1 ⟨rfl, hb⟩
    have HW1 : Hid (Below w.heap.size w w1) := Lib.hid (hb)
    have hz1 := HW1.out.size
    clear hb
    go_wp2_with fail
    refine (HB.out _ HW1.out).mono ?_
    rintro e w2 ⟨rfl, hb⟩
    have HW2 : Hid (Below w.heap.size w w2) := Lib.hid (HW1.out.trans (hb.mono hz1))
    have hz2 := HW2.out.size
    clear hb
    go_wp2_with fail
    go_ret2
    exact retMs8_nil HW2.out 1
  have q1 : ¬ (chkC A [] = 1 ∨ chkC B [] = 1) := by
    rw [chk_one, chk_one, hA, hB]
    simp
  rw [hA] at HA
  rw [hB] at HB
  by_cases q3 : chkC A [] = 0
  rotate_left
  · have q2 : chkC A [] ≠ 0 ∨ chkC B [] ≠ 0 := Or.inl q3
    rw [sbL_no (by rw [sbC_2 q1 q2]; decide), sbC_2 q1 q2]
    have hne : (chkC A [] != 0) = true := by simpa using q3
    generalize chkC A [] = X at *
    clear hA hB q1 q2 q3 h1 h2
    go_enter Try.func57, Try.ntmps57
    go_wp2_with fail
    refine (HA.out _ (Below.refl _ _)).mono ?_
    rintro e w1 ⟨rfl, hb⟩
    have HW1 : Hid (Below w.heap.size w w1) := Lib.hid (hb)
    have hz1 := HW1.out.size
    clear hb
    go_wp2_with fail
    refine (HB.out _ HW1.out).mono ?_
    rintro e w2 ⟨rfl, hb⟩
    have HW2 : Hid (Below w.heap.size w w2) := Lib.hid (HW1.out.trans (hb.mono hz1))
    have hz2 := HW2.out.size
    clear hb
    go_wp2_with fail
    refine (HC.out _ HW2.out).mono ?_
    rintro e w3 ⟨rfl, hb⟩
    have HW3 : Hid (Below w.heap.size w w3) := Lib.hid (HW2.out.trans (hb.mono hz2))
    have hz3 := HW3.out.size
    clear hb
    go_wp2_with fail
    go_ret2
    exact retMs8_nil HW3.out 2
  by_cases q4 : chkC B [] = 0
  rotate_left
  · have q2 : chkC A [] ≠ 0 ∨ chkC B [] ≠ 0 := Or.inr q4
    rw [sbL_no (by rw [sbC_2 q1 q2]; decide), sbC_2 q1 q2]
    have hne : (chkC B [] != 0) = true := by simpa using q4
    rw [q3] at HC
    generalize chkC B [] = X at *
    clear hA hB q1 q2 q3 q4 h1 h2
    go_enter Try.func57, Try.ntmps57
    go_wp2_with fail
    refine (HA.out _ (Below.refl _ _)).mono ?_
    rintro e w1 ⟨rfl, hb⟩
    have HW1 : Hid (Below w.heap.size w w1) := Lib.hid (hb)
    have hz1 := HW1.out.size
    clear hb
    go_wp2_with fail
    refine (HB.out _ HW1.out).mono ?_
    rintro e w2 ⟨rfl, hb⟩
    have HW2 : Hid (Below w.heap.size w w2) := Lib.hid (HW1.out.trans (hb.mono hz1))
    have hz2 := HW2.out.size
    clear hb
    go_wp2_with fail
    refine (HC.out _ HW2.out).mono ?_
    rintro e w3 ⟨rfl, hb⟩
    have HW3 : Hid (Below w.heap.size w w3) := Lib.hid (HW2.out.trans (hb.mono hz2))
    have hz3 := HW3.out.size
    clear hb
    go_wp2_with fail
    refine (HD.out _ HW3.out).mono ?_
    rintro e w4 ⟨rfl, hb⟩
    have HW4 : Hid (Below w.heap.size w w4) := Lib.hid (HW3.out.trans (hb.mono hz3))
    have hz4 := HW4.out.size
    clear hb
    go_wp2_with fail
    go_ret2
    exact retMs8_nil HW4.out 2
  rw [q3] at HC
  rw [q4] at HD
  obtain ⟨n, hn, hn1, hn5, hA1, hA6, hAK⟩ := chk_pts q3
  obtain ⟨m, hm, hm1, hm5, hB1, hB6, hBK⟩ := chk_pts q4
  obtain ⟨g1, o1, rfl, hlt1, hat1⟩ := h1.at0 (by omega)
  obtain ⟨g2, o2, rfl, hlt2, hat2⟩ := h2.at0 (by omega)
  have k1 : w.cell? ⟨g1, o1, none⟩ = some (.int .i64 (n : Int)) := by rw [← hn]; exact hat1.1
  have k2 : w.cell? ⟨g2, o2, none⟩ = some (.int .i64 (m : Int)) := by rw [← hm]; exact hat2.1
  have HCE : Hid (∀ z, Below w.heap.size w z → z.cell? ⟨g1, o1, none⟩ = some (.int .i64 (n : Int)) ∧ z.cell? ⟨g2, o2, none⟩ = some (.int .i64 (m : Int))) := Lib.hid fun z hz => ⟨(hz.cell (p := ⟨g1, o1, none⟩) hlt1).trans k1, (hz.cell (p := ⟨g2, o2, none⟩) hlt2).trans k2⟩
  have HM1 := Lib.hid h1
  have HM2 := Lib.hid h2
  have hpA : (0 : Int) < (A.length : Int) := by omega
  have hpB : (0 : Int) < (B.length : Int) := by omega
  clear hat1 hat2 k1 k2 q1
  by_cases q5 : 5 < fst0 A + fst0 B ∨ 6 < A.length + B.length
  · rw [sbL_no (by rw [sbC_3 q3 q4 q5]; decide), sbC_3 q3 q4 q5]
    rw [hn, hm] at q5
    have hws : IntKind.i64.wrap ((n : Int) + (m : Int)) = (n : Int) + (m : Int) := IntWalk.i64_in _ (by omega)
    have hwl : IntKind.i64.wrap ((A.length : Int) + (B.length : Int)) = (A.length : Int) + (B.length : Int) := IntWalk.i64_in _ (by omega)
    obtain ⟨la, hla⟩ : ∃ la, la = A.length := ⟨_, rfl⟩
    obtain ⟨lb, hlb⟩ : ∃ lb, lb = B.length := ⟨_, rfl⟩
    rw [← hla] at HA HC hpA hwl q5 hA1 ⊢
    rw [← hlb] at HB HD hpB hwl q5 hB1 ⊢
    have hpA2 : 0 < la := hA1
    have hpB2 : 0 < lb := hB1
    clear hla hlb h1 h2 q3 q4 hn hm hAK hBK hA6 hB6 hA hB
    by_cases q6 : 5 < (n : Int) + (m : Int)
    · clear q5
      go_enter Try.func57, Try.ntmps57
      go_wp2_with fail
      refine (HA.out _ (Below.refl _ _)).mono ?_
      rintro e w1 ⟨rfl, hb⟩
      have HW1 : Hid (Below w.heap.size w w1) := Lib.hid (hb)
      have hz1 := HW1.out.size
      clear hb
      go_wp2_with fail
      refine (HB.out _ HW1.out).mono ?_
      rintro e w2 ⟨rfl, hb⟩
      have HW2 : Hid (Below w.heap.size w w2) := Lib.hid (HW1.out.trans (hb.mono hz1))
      have hz2 := HW2.out.size
      clear hb
      go_wp2_with fail
      refine (HC.out _ HW2.out).mono ?_
      rintro e w3 ⟨rfl, hb⟩
      have HW3 : Hid (Below w.heap.size w w3) := Lib.hid (HW2.out.trans (hb.mono hz2))
      have hz3 := HW3.out.size
      clear hb
      go_wp2_with fail
      refine (HD.out _ HW3.out).mono ?_
      rintro e w4 ⟨rfl, hb⟩
      have HW4 : Hid (Below w.heap.size w w4) := Lib.hid (HW3.out.trans (hb.mono hz3))
      have hz4 := HW4.out.size
      clear hb
      go_wp2_with fail
      obtain ⟨y1, y2⟩ := HCE.out w4 HW4.out
      go_quiet (fail)
      obtain ⟨w5, hw5⟩ : ∃ w5, w5 = w4.drewN nq := ⟨_, rfl⟩
      have HW5 : Hid (Below w.heap.size w w5) := Lib.hid (by rw [hw5]; exact below_drewN HW4.out _)
      rw [← hw5]
      clear hw5 y1 y2
      go_wp2_with fail
      go_ret2
      exact retMs8_nil HW5.out 3
    · have q7 : 6 < (la : Int) + (lb : Int) := by omega
      clear q5
      go_enter Try.func57, Try.ntmps57
      go_wp2_with fail
      refine (HA.out _ (Below.refl _ _)).mono ?_
      rintro e w1 ⟨rfl, hb⟩
      have HW1 : Hid (Below w.heap.size w w1) := Lib.hid (hb)
      have hz1 := HW1.out.size
      clear hb
      go_wp2_with fail
      refine (HB.out _ HW1.out).mono ?_
      rintro e w2 ⟨rfl, hb⟩
      have HW2 : Hid (Below w.heap.size w w2) := Lib.hid (HW1.out.trans (hb.mono hz1))
      have hz2 := HW2.out.size
      clear hb
      go_wp2_with fail
      refine (HC.out _ HW2.out).mono ?_
      rintro e w3 ⟨rfl, hb⟩
      have HW3 : Hid (Below w.heap.size w w3) := Lib.hid (HW2.out.trans (hb.mono hz2))
      have hz3 := HW3.out.size
      clear hb
      go_wp2_with fail
      refine (HD.out _ HW3.out).mono ?_
      rintro e w4 ⟨rfl, hb⟩
      have HW4 : Hid (Below w.heap.size w w4) := Lib.hid (HW3.out.trans (hb.mono hz3))
      have hz4 := HW4.out.size
      clear hb
      go_wp2_with fail
      obtain ⟨y1, y2⟩ := HCE.out w4 HW4.out
      go_quiet (fail)
      obtain ⟨w5, hw5⟩ : ∃ w5, w5 = w4.drewN nq := ⟨_, rfl⟩
      have HW5 : Hid (Below w.heap.size w w5) := Lib.hid (by rw [hw5]; exact below_drewN HW4.out _)
      rw [← hw5]
      clear hw5 y1 y2
      go_wp2_with fail
      go_ret2
      exact retMs8_nil HW5.out 3
  have hce := sbC_0 q3 q4 q5
  rw [sbL_yes hce, hce, hn, hm]
  rw [hn, hm] at q5
  simp only [Int.toNat_natCast]
  have hws : IntKind.i64.wrap ((n : Int) + (m : Int)) = (n : Int) + (m : Int) := IntWalk.i64_in _ (by omega)
  have hwl : IntKind.i64.wrap ((A.length : Int) + (B.length : Int)) = (A.length : Int) + (B.length : Int) := IntWalk.i64_in _ (by omega)
  have q6 : ¬ (5 < (n : Int) + (m : Int)) := by omega
  have q7 : ¬ (6 < (A.length : Int) + (B.length : Int)) := by omega
  have HAK := Lib.hid hAK
  have HBK := Lib.hid hBK
  have hnm5 : n + m ≤ 5 := by omega
  obtain ⟨la, hla⟩ : ∃ la, la = A.length := ⟨_, rfl⟩
  obtain ⟨lb, hlb⟩ : ∃ lb, lb = B.length := ⟨_, rfl⟩
  have HLA := Lib.hid hla
  have HLB := Lib.hid hlb
  rw [← hla] at HA HC hpA hwl q7 hA1 hA6 ⊢
  rw [← hlb] at HB HD hpB hwl q7 hB1 hB6 ⊢
  have hpA2 : 0 < la := hA1
  have hpB2 : 0 < lb := hB1
  clear hla hlb h1 h2 q3 q4 q5 hn hm hAK hBK hce hA hB
  go_enter Try.func57, Try.ntmps57
  go_wp2_with fail
  refine (HA.out _ (Below.refl _ _)).mono ?_
  rintro e w1 ⟨rfl, hb⟩
  have HW1 : Hid (Below w.heap.size w w1) := Lib.hid (hb)
  have hz1 := HW1.out.size
  clear hb
  go_wp2_with fail
  refine (HB.out _ HW1.out).mono ?_
  rintro e w2 ⟨rfl, hb⟩
  have HW2 : Hid (Below w.heap.size w w2) := Lib.hid (HW1.out.trans (hb.mono hz1))
  have hz2 := HW2.out.size
  clear hb
  go_wp2_with fail
  refine (HC.out _ HW2.out).mono ?_
  rintro e w3 ⟨rfl, hb⟩
  have HW3 : Hid (Below w.heap.size w w3) := Lib.hid (HW2.out.trans (hb.mono hz2))
  have hz3 := HW3.out.size
  clear hb
  go_wp2_with fail
  refine (HD.out _ HW3.out).mono ?_
  rintro e w4 ⟨rfl, hb⟩
  have HW4 : Hid (Below w.heap.size w w4) := Lib.hid (HW3.out.trans (hb.mono hz3))
  have hz4 := HW4.out.size
  clear hb
  go_wp2_with fail
  obtain ⟨y1, y2⟩ := HCE.out w4 HW4.out
  go_quiet (fail)
  obtain ⟨w5, hw5⟩ : ∃ w5, w5 = w4.drewN nq := ⟨_, rfl⟩
  have HW5 : Hid (Below w.heap.size w w5) := Lib.hid (by rw [hw5]; exact below_drewN HW4.out _)
  rw [← hw5]
  clear hw5 y1 y2
  go_wp2_with fail
  go_loopw [8, 10, 51] (fun v _ i wx => ∃ k : Nat, k ≤ la ∧ i = .int .i64 k ∧ OwnM wx w.heap.size v (saL A n m k) ∧ Below w.heap.size w wx) (fun _ _ i _ => la - (intOf i).toNat)
  case atStart => exact ⟨0, by omega, rfl, World.ownsRow_nil _ _ _ _, HW5.out⟩
  case round =>
    obtain ⟨k, hk, rfl, hown, hb⟩ := hrel
    have HO := Lib.hid hown
    have HB3 := Lib.hid hb
    have hz9 := hb.size
    clear hown hb
    obtain ⟨wo, hwo⟩ : ∃ wo, wo = wr := ⟨_, rfl⟩
    subst hwo
    by_cases hka : k < la
    · have hka' : (k : Int) < (la : Int) := by omega
      have hkA : k < A.length := by rw [← HLA.out]; exact hka
      have HSU := Lib.hid (saL_succ A n m k)
      have HLN := Lib.hid (saL_len A n m k)
      obtain ⟨g9, o9, e9, _, hat9⟩ := (HM1.out.below HB3.out).at6 k hkA
      injection e9 with e9
      injection e9 with e9 e8
      subst e9 e8
      obtain ⟨hp9, hisb⟩ := HAK.out k hkA
      have HISB := Lib.hid hisb
      have HBD : Hid (∀ i, i < 5 → okAt (n : Int) (A.getD k z0).2 i) := Lib.hid (isB_true.1 hisb).2.2
      clear hisb
      generalize (A.getD k z0) = M0 at *
      obtain ⟨pf, f⟩ := M0
      simp only [] at HSU HBD HISB hp9
      subst hp9
      obtain ⟨x0, x1, x2, x3, x4, x5⟩ := hat9
      simp only [] at x0 x1 x2 x3 x4 x5
      have hbes := fun w => ibes_any n m hn1 hm1 hnm5 f (idn (m : Int)) (fun i hi => by unfold idn; split <;> omega) w
      unfold okAt at HBD
      have hcv : mv ((n : Int) + (m : Int)) (bsK n f (idn (m : Int)) m) = mv ((n : Int) + (m : Int)) (sbA n m f) := congrArg Value.agg (mcells_congr (p := (n : Int) + (m : Int)) (bes_a (m := m) HISB.out))
      rw [hcv] at hbes
      have HBES := Lib.hid hbes
      have HIDN := Lib.hid fun w => iid_any (m : Int) (by omega) (by omega) w
      simp only [mv] at HBES HIDN
      clear hcv hbes
      have HOL : Hid (∀ r, u8.ownBlock = some r → w.heap.size ≤ r ∧ r < wo.heap.size) := Lib.hid fun r e => World.ownsRow.lt HO.out r e
      generalize sbA n m f = T at *
      generalize idn (m : Int) = J at *
      simp only [mcells] at HBES HIDN
      go_wp2_with fail
      obtain ⟨wx, hwx⟩ : ∃ wx, wx = wo.alloc (.cells #[.int .i64 (n : Int), .int .i64 (f 0), .int .i64 (f 1), .int .i64 (f 2), .int .i64 (f 3), .int .i64 (f 4)] 71) := ⟨_, rfl⟩
      have HBX : Hid (Below wo.heap.size wo wx) := Lib.hid (by rw [hwx]; exact (Below.refl _ _).alloc (Nat.le_refl _) _)
      have hs0 : wx.heap[wo.heap.size]? = some (.cells (mcells (n : Int) f) 71 (0, 0)) := by rw [hwx]; exact halloc_at _ _ _ rfl
      have hzx : wo.heap.size < wx.heap.size := (Array.getElem?_eq_some_iff.1 hs0).1
      rw [← hwx]
      clear hwx
      have r0 : ∀ x : World, x.heap[wo.heap.size]? = some (.cells (mcells (n : Int) f) 71 (0, 0)) → x.cell? ⟨wo.heap.size, 0, none⟩ = some (.int .i64 (n : Int)) := fun x h => (blk6 h).1
      have r1 : ∀ x : World, x.heap[wo.heap.size]? = some (.cells (mcells (n : Int) f) 71 (0, 0)) → x.cell? ⟨wo.heap.size, 1, none⟩ = some (.int .i64 (f 0)) := fun x h => (blk6 h).2.1
      have r2 : ∀ x : World, x.heap[wo.heap.size]? = some (.cells (mcells (n : Int) f) 71 (0, 0)) → x.cell? ⟨wo.heap.size, 2, none⟩ = some (.int .i64 (f 1)) := fun x h => (blk6 h).2.2.1
      have r3 : ∀ x : World, x.heap[wo.heap.size]? = some (.cells (mcells (n : Int) f) 71 (0, 0)) → x.cell? ⟨wo.heap.size, 3, none⟩ = some (.int .i64 (f 2)) := fun x h => (blk6 h).2.2.2.1
      have r4 : ∀ x : World, x.heap[wo.heap.size]? = some (.cells (mcells (n : Int) f) 71 (0, 0)) → x.cell? ⟨wo.heap.size, 4, none⟩ = some (.int .i64 (f 3)) := fun x h => (blk6 h).2.2.2.2.1
      have r5 : ∀ x : World, x.heap[wo.heap.size]? = some (.cells (mcells (n : Int) f) 71 (0, 0)) → x.cell? ⟨wo.heap.size, 5, none⟩ = some (.int .i64 (f 4)) := fun x h => (blk6 h).2.2.2.2.2
      have HLEN : Hid ((saL A n m k).length + 1 ≤ 2000000) := Lib.hid (by rw [HLN.out]; omega)
      go_region_held3 (fun w' => w'.heap[wo.heap.size]? = some (.cells (mcells (n : Int) f) 71 (0, 0))) (first | exact hs0 | exact hs4 | exact hs5 | exact hs6 | exact hs7)
        (first
          | (go_at_call 91; (with_reducible refine (HIDN.out _).mono ?_); rintro e w6 ⟨rfl, hb⟩; have hs4 := (hb.block _ (show wo.heap.size < _ from hzx)).trans hs0; have hz6 := hb.size; (try simp at hz6); have HB6 := Lib.hid hb; clear hb)
          | (go_at_call 90; (with_reducible refine (HBES.out _).mono ?_); rintro e w7 ⟨rfl, hb⟩; have hs5 := (hb.block _ (show wo.heap.size < _ from Nat.lt_of_lt_of_le hzx hz6)).trans hs4; have hz7 := hb.size; (try simp at hz7); have HB7 := Lib.hid hb; clear hb; have hs6 := (halloc_lt w7 (.cells #[.int .i64 ((n : Int) + (m : Int)), .int .i64 (T 0), .int .i64 (T 1), .int .i64 (T 2), .int .i64 (T 3), .int .i64 (T 4)] 71) _ (show wo.heap.size < w7.heap.size by omega)).trans hs5)
          | (refine step_appMS rfl (.tmp 55) (.tmp 60) rfl w.heap.size u8 (saL A n m k) rfl (ownM_keepS HO.out (by (repeat' (first | (with_reducible exact Below.refl _ _) | (with_reducible refine Below.alloc ?_ ?_ _) | (with_reducible refine Below.setCell ?_ ?_ _) | (with_reducible refine Below.drew ?_) | (with_reducible refine below_drewN ?_ _) | (with_reducible refine Below.trans ?_ (Below.mono (Hid.out (by assumption)) ?_)) | omega | (simp; done) | (simp; omega))))) w7.heap.size 0 1 [((n : Int) + (m : Int), T)] rfl (at_oneS (halloc_at w7 (.cells (mcells ((n : Int) + (m : Int)) T) 71) _ rfl)) HLEN.out (by simp; omega) ?_; intro v7 w8 hown7 hgrow7 hat7; have HO6 := Lib.hid hown7; have HB8 : Hid (Below w.heap.size w w8) := Lib.hid (Below.grown (w := w7.alloc (.cells (mcells ((n : Int) + (m : Int)) T) 71)) (by (repeat' (first | (with_reducible exact Below.refl _ _) | (with_reducible refine Below.alloc ?_ ?_ _) | (with_reducible refine Below.setCell ?_ ?_ _) | (with_reducible refine Below.drew ?_) | (with_reducible refine below_drewN ?_ _) | (with_reducible refine Below.trans ?_ (Below.mono (Hid.out (by assumption)) ?_)) | omega | (simp; done) | (simp; omega)))) hgrow7 (by simp; omega) (fun r e => (HOL.out r e).1)); have hs7 := (hgrow7.block wo.heap.size (by simp; omega) (fun e => by have := HOL.out _ e.symm; omega)).trans hs6; clear hown7 hgrow7 hat7))
      go_wp2_with fail
      go_roundw
      case rel => exact ⟨k + 1, by omega, by go_num, by rw [HSU.out]; exact HO6.out, HB8.out⟩
      case measure => simp [intOf]; omega
    · obtain rfl : k = la := by omega
      have HLA1 := Lib.hid (saL_len A n m k)
      obtain ⟨LA, hLA⟩ : ∃ LA, LA = saL A n m k := ⟨_, rfl⟩
      rw [← hLA] at HO HLA1
      have HLAE := Lib.hid hLA
      have HO0 := HO
      have HB30 := HB3
      clear hLA
      go_wp2_with fail
      go_loopw [8, 12, 65] (fun v _ i wx => ∃ k : Nat, k ≤ lb ∧ i = .int .i64 k ∧ OwnM wx w.heap.size v (LA ++ sbbL B n m k) ∧ Below w.heap.size w wx) (fun _ _ i _ => lb - (intOf i).toNat)
      case atStart => exact ⟨0, by omega, rfl, by rw [show sbbL B n m 0 = [] from rfl, List.append_nil]; exact HO0.out, HB30.out⟩
      case round =>
        obtain ⟨k, hk, rfl, hown, hb⟩ := hrel
        have HO := Lib.hid hown
        have HB3 := Lib.hid hb
        have hz9 := hb.size
        clear hown hb
        obtain ⟨wo, hwo⟩ : ∃ wo, wo = wr := ⟨_, rfl⟩
        subst hwo
        by_cases hka : k < lb
        · have hka' : (k : Int) < (lb : Int) := by omega
          have hkA : k < B.length := by rw [← HLB.out]; exact hka
          have HSU := Lib.hid (sbbL_succ B n m k)
          have HLN := Lib.hid (sbbL_len B n m k)
          obtain ⟨g9, o9, e9, _, hat9⟩ := (HM2.out.below HB3.out).at6 k hkA
          injection e9 with e9
          injection e9 with e9 e8
          subst e9 e8
          obtain ⟨hp9, hisb⟩ := HBK.out k hkA
          have HISB := Lib.hid hisb
          have HBD : Hid (∀ i, i < 5 → okAt (m : Int) (B.getD k z0).2 i) := Lib.hid (isB_true.1 hisb).2.2
          clear hisb
          generalize (B.getD k z0) = M0 at *
          obtain ⟨pf, f⟩ := M0
          simp only [] at HSU HBD HISB hp9
          subst hp9
          obtain ⟨x0, x1, x2, x3, x4, x5⟩ := hat9
          simp only [] at x0 x1 x2 x3 x4 x5
          have hbes := fun w => ibes_any n m hn1 hm1 hnm5 (idn (n : Int)) f (fun i hi => by have := ((HBD.out i (by omega)).1 (by omega)); omega) w
          unfold okAt at HBD
          have hcv : mv ((n : Int) + (m : Int)) (bsK n (idn (n : Int)) f m) = mv ((n : Int) + (m : Int)) (sbB n m f) := congrArg Value.agg (mcells_congr (p := (n : Int) + (m : Int)) (fun i hi => bes_b (n := n) (m := m) (g := f) i hi))
          rw [hcv] at hbes
          have HBES := Lib.hid hbes
          have HIDN := Lib.hid fun w => iid_any (n : Int) (by omega) (by omega) w
          simp only [mv] at HBES HIDN
          clear hcv hbes
          have HOL : Hid (∀ r, u8.ownBlock = some r → w.heap.size ≤ r ∧ r < wo.heap.size) := Lib.hid fun r e => World.ownsRow.lt HO.out r e
          generalize sbB n m f = T at *
          generalize idn (n : Int) = J at *
          simp only [mcells] at HBES HIDN
          go_wp2_with fail
          obtain ⟨wx, hwx⟩ : ∃ wx, wx = wo.alloc (.cells #[.int .i64 (m : Int), .int .i64 (f 0), .int .i64 (f 1), .int .i64 (f 2), .int .i64 (f 3), .int .i64 (f 4)] 71) := ⟨_, rfl⟩
          have HBX : Hid (Below wo.heap.size wo wx) := Lib.hid (by rw [hwx]; exact (Below.refl _ _).alloc (Nat.le_refl _) _)
          have hs0 : wx.heap[wo.heap.size]? = some (.cells (mcells (m : Int) f) 71 (0, 0)) := by rw [hwx]; exact halloc_at _ _ _ rfl
          have hzx : wo.heap.size < wx.heap.size := (Array.getElem?_eq_some_iff.1 hs0).1
          rw [← hwx]
          clear hwx
          have r0 : ∀ x : World, x.heap[wo.heap.size]? = some (.cells (mcells (m : Int) f) 71 (0, 0)) → x.cell? ⟨wo.heap.size, 0, none⟩ = some (.int .i64 (m : Int)) := fun x h => (blk6 h).1
          have r1 : ∀ x : World, x.heap[wo.heap.size]? = some (.cells (mcells (m : Int) f) 71 (0, 0)) → x.cell? ⟨wo.heap.size, 1, none⟩ = some (.int .i64 (f 0)) := fun x h => (blk6 h).2.1
          have r2 : ∀ x : World, x.heap[wo.heap.size]? = some (.cells (mcells (m : Int) f) 71 (0, 0)) → x.cell? ⟨wo.heap.size, 2, none⟩ = some (.int .i64 (f 1)) := fun x h => (blk6 h).2.2.1
          have r3 : ∀ x : World, x.heap[wo.heap.size]? = some (.cells (mcells (m : Int) f) 71 (0, 0)) → x.cell? ⟨wo.heap.size, 3, none⟩ = some (.int .i64 (f 2)) := fun x h => (blk6 h).2.2.2.1
          have r4 : ∀ x : World, x.heap[wo.heap.size]? = some (.cells (mcells (m : Int) f) 71 (0, 0)) → x.cell? ⟨wo.heap.size, 4, none⟩ = some (.int .i64 (f 3)) := fun x h => (blk6 h).2.2.2.2.1
          have r5 : ∀ x : World, x.heap[wo.heap.size]? = some (.cells (mcells (m : Int) f) 71 (0, 0)) → x.cell? ⟨wo.heap.size, 5, none⟩ = some (.int .i64 (f 4)) := fun x h => (blk6 h).2.2.2.2.2
          have HLEN : Hid ((LA ++ sbbL B n m k).length + 1 ≤ 2000000) := Lib.hid (by rw [List.length_append, HLA1.out, HLN.out]; omega)
          go_region_held3 (fun w' => w'.heap[wo.heap.size]? = some (.cells (mcells (m : Int) f) 71 (0, 0))) (first | exact hs0 | exact hs4 | exact hs5 | exact hs6 | exact hs7)
            (first
              | (go_at_call 91; (with_reducible refine (HIDN.out _).mono ?_); rintro e w6 ⟨rfl, hb⟩; have hs4 := (hb.block _ (show wo.heap.size < _ from hzx)).trans hs0; have hz6 := hb.size; (try simp at hz6); have HB6 := Lib.hid hb; clear hb)
              | (go_at_call 90; (with_reducible refine (HBES.out _).mono ?_); rintro e w7 ⟨rfl, hb⟩; have hs5 := (hb.block _ (show wo.heap.size < _ from Nat.lt_of_lt_of_le hzx hz6)).trans hs4; have hz7 := hb.size; (try simp at hz7); have HB7 := Lib.hid hb; clear hb; have hs6 := (halloc_lt w7 (.cells #[.int .i64 ((n : Int) + (m : Int)), .int .i64 (T 0), .int .i64 (T 1), .int .i64 (T 2), .int .i64 (T 3), .int .i64 (T 4)] 71) _ (show wo.heap.size < w7.heap.size by omega)).trans hs5)
              | (refine step_appMS rfl (.tmp 69) (.tmp 74) rfl w.heap.size u8 (LA ++ sbbL B n m k) rfl (ownM_keepS HO.out (by (repeat' (first | (with_reducible exact Below.refl _ _) | (with_reducible refine Below.alloc ?_ ?_ _) | (with_reducible refine Below.setCell ?_ ?_ _) | (with_reducible refine Below.drew ?_) | (with_reducible refine below_drewN ?_ _) | (with_reducible refine Below.trans ?_ (Below.mono (Hid.out (by assumption)) ?_)) | omega | (simp; done) | (simp; omega))))) w7.heap.size 0 1 [((n : Int) + (m : Int), T)] rfl (at_oneS (halloc_at w7 (.cells (mcells ((n : Int) + (m : Int)) T) 71) _ rfl)) HLEN.out (by simp; omega) ?_; intro v7 w8 hown7 hgrow7 hat7; have HO6 := Lib.hid hown7; have HB8 : Hid (Below w.heap.size w w8) := Lib.hid (Below.grown (w := w7.alloc (.cells (mcells ((n : Int) + (m : Int)) T) 71)) (by (repeat' (first | (with_reducible exact Below.refl _ _) | (with_reducible refine Below.alloc ?_ ?_ _) | (with_reducible refine Below.setCell ?_ ?_ _) | (with_reducible refine Below.drew ?_) | (with_reducible refine below_drewN ?_ _) | (with_reducible refine Below.trans ?_ (Below.mono (Hid.out (by assumption)) ?_)) | omega | (simp; done) | (simp; omega)))) hgrow7 (by simp; omega) (fun r e => (HOL.out r e).1)); have hs7 := (hgrow7.block wo.heap.size (by simp; omega) (fun e => by have := HOL.out _ e.symm; omega)).trans hs6; clear hown7 hgrow7 hat7))
          go_wp2_with fail
          go_roundw
          case rel => exact ⟨k + 1, by omega, by go_num, by rw [HSU.out, ← List.append_assoc]; exact HO6.out, HB8.out⟩
          case measure => simp [intOf]; omega
        · obtain rfl : k = lb := by omega
          have hO := HO.out
          rw [HLAE.out] at hO
          obtain ⟨ac, cc, rfl, hrd⟩ := ownM_rd hO (by rw [List.length_append, saL_len, sbbL_len]; omega)
          have HRD := Lib.hid hrd
          clear hrd hO HO
          go_wp2_with fail
          go_ret2
          exact ⟨ac, cc, rfl, HRD.out, HB3.out⟩

end Go.Proofs.Ytgiefgbpcjoieaa
