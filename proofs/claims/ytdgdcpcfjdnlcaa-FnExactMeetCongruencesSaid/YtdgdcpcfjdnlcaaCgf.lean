/- The contracts of impl.congruencesFor and spec.l06Both: the table, where the classes given are congruences. -/
import Derived.Test.YtdgdcpcfjdnlcaaIcg
namespace Go.Proofs.Ytdgdcpcfjdnlcaa
open Go Go.RowKit

/-- The code of a list with congruences. -/
noncomputable def cgC (L : List MapN) (LL : List (List Int)) : Int := if clC L LL = 0 then (if LL.all (fun X => cngB (elsK L).length (muK (fst0 L) (elsK L)) true X) = true then 0 else 5) else clC L LL

theorem cgC_bad {L : List MapN} {LL : List (List Int)} (h : clC L LL ≠ 0) : cgC L LL = clC L LL := by unfold cgC; rw [if_neg h]
theorem cgC_0 {L : List MapN} {LL : List (List Int)} (h : clC L LL = 0) (h2 : ∀ j, j < LL.length → cngB (elsK L).length (muK (fst0 L) (elsK L)) true (LL.getD j []) = true) : cgC L LL = 0 := by
  unfold cgC
  rw [if_pos h, if_pos]
  rw [List.all_eq_true]
  intro X hX
  obtain ⟨j, hj, rfl⟩ := List.getElem_of_mem hX
  have := h2 j hj
  rw [List.getD_eq_getElem?_getD, List.getElem?_eq_getElem hj] at this
  exact this
theorem cgC_5 {L : List MapN} {LL : List (List Int)} (h : clC L LL = 0) (j : Nat) (hj : j < LL.length) (h2 : cngB (elsK L).length (muK (fst0 L) (elsK L)) true (LL.getD j []) = false) : cgC L LL = 5 := by
  unfold cgC
  rw [if_pos h, if_neg]
  rw [List.all_eq_true]
  intro hc
  have := hc _ (List.getElem_mem hj)
  rw [List.getD_eq_getElem?_getD, List.getElem?_eq_getElem hj] at h2
  rw [show cngB (elsK L).length (muK (fst0 L) (elsK L)) true LL[j] = false from h2] at this
  cases this

/-- What is left of a list with congruences, on the side of impl. -/
def RetCgI (L : List MapN) (LL : List (List Int)) (w : World) (e : Ending) (w' : World) : Prop :=
  Below w.heap.size w w' ∧ ((cgC L LL ≠ 0 ∧ e = .returned (.tuple #[.slice none 0 0, .slice none 0 0, .int .i64 (cgC L LL)])) ∨
    (cgC L LL = 0 ∧ Mon (fst0 L) (elsK L) ∧ (elsK L).length ≤ 30 ∧ (∀ j, j < LL.length → Cls (LL.getD j []) (elsK L).length ∧ cngB (elsK L).length (muK (fst0 L) (elsK L)) true (LL.getD j []) = true) ∧ ∃ a cap a2 c2, e = .returned (.tuple #[.slice a (elsK L).length cap, .slice a2 LL.length c2, .int .i64 0]) ∧ Tb w' w'.heap.size a (elsK L).length (muK (fst0 L) (elsK L)) ∧ InRowA w' a2 LL))

set_option maxRecDepth 100000 in
set_option maxHeartbeats 4000000 in
theorem icgf_any (a : Option Addr) (c : Nat) (hc0 : a = none → c = 0) (L : List MapN) (hl : L.length ≤ 1048576) (LL : List (List Int)) (hLn : LL.length ≤ 1000) (hLw : ∀ j, j < LL.length → ∀ x ∈ LL.getD j [], (Lit.int .i64 x).wf = true) (ag : Option Addr) (cg : Nat) (w : World) (hr : InRowM w a L) (hg : InRows w ag LL) :
    Calls Try.prog 60 #[.slice a L.length c, .slice ag LL.length cg] w (RetCgI L LL w) := by
  have hz : ∀ w : World, (zeroValue 63).run Try.prog w = .ok (.agg (acl []).toArray) w := fun _ => by kernel_rfl
  have h0 := acl_len (L := []) (by simp)
  obtain ⟨Z, hZ⟩ : ∃ Z, Z = (acl []).toArray := ⟨_, rfl⟩
  have HZS : Hid (Z.size = 30) := Lib.hid (by rw [hZ]; simp [h0])
  rw [← hZ] at hz
  clear h0 hZ
  have HG := Lib.hid (icl_any a c hc0 L hl LL hLn hLw ag cg w hr hg)
  clear hr hg hLw hc0
  go_enter Try.func60, Try.ntmps60
  go_wp2_with fail
  refine HG.out.mono ?_
  rintro e w1 ⟨hb, ⟨hc, rfl⟩ | ⟨hc, hmon, hle, hcl, a1, c1, a2, c2, rfl, htb, hia⟩⟩
  · have HB := Lib.hid hb
    have HE := Lib.hid (cgC_bad (LL := LL) hc)
    have HC := Lib.hid hc
    clear hb hc hz
    generalize clC L LL = C at *
    go_wp2_with fail
    refine wp_loop_rounds 1 ?_
    rw [rounds_succ]
    go_wp2_with fail
    go_ret3
    exact ⟨HB.out, Or.inl ⟨by rw [HE.out]; exact HC.out, by rw [HE.out]; rfl⟩⟩
  · have HB := Lib.hid hb
    have HC := Lib.hid hc
    have HMO := Lib.hid hmon
    have HTB := Lib.hid htb
    have HIA := Lib.hid hia
    have HCL := Lib.hid hcl
    have HQ := Lib.hid fun j hj h2 => cgC_5 (LL := LL) hc j hj h2
    have HQ0 := Lib.hid fun h2 => cgC_0 (LL := LL) hc h2
    have HIC := Lib.hid fun X hX aT cT K w ht => isc_any (elsK L).length hle (mon_pos hmon) (muK (fst0 L) (elsK L)) (fun i j hi hj => muK_lt hmon i j hi hj) X hX aT cT K w ht
    have hs1 := hb.size
    clear hb hc hmon htb hia hcl
    obtain ⟨m, hm⟩ : ∃ m, m = (elsK L).length := ⟨_, rfl⟩
    have HM := Lib.hid hm
    rw [← hm] at hle HQ HQ0 HTB HCL HIC ⊢
    clear hm
    obtain ⟨mu, hmu⟩ : ∃ mu, mu = muK (fst0 L) (elsK L) := ⟨_, rfl⟩
    have HMU := Lib.hid hmu
    rw [← hmu] at HQ HQ0 HTB HIC
    clear hmu
    have hu := Try.underlying63
    go_wp2_with fail
    go_loopw [11, 21] (fun _ i wr => ∃ k : Nat, k ≤ LL.length ∧ i = .int .i64 k ∧ Below w1.heap.size w1 wr ∧ ∀ j, j < k → cngB m mu true (LL.getD j []) = true) (fun _ i _ => LL.length - (intOf i).toNat)
    case atStart => exact ⟨0, by omega, rfl, Below.refl _ _, fun j hj => by omega⟩
    case round =>
      obtain ⟨k, hk, rfl, hb, hal⟩ := hrel
      have HBR := Lib.hid hb
      have HAL := Lib.hid hal
      have hsr := hb.size
      by_cases hkl : k < LL.length
      · have hkl' : (k : Int) < (LL.length : Int) := by omega
        obtain ⟨b, rfl, hbl, hcs⟩ := HIA.out.resolve_left (fun e => by rw [e] at hkl; simp at hkl)
        have hrg := rangeAt_below (hcs k hkl) hbl hb
        have hcl := HCL.out k hkl
        have HQK := Lib.hid fun h2 => HQ.out k hkl h2
        have HALS : Hid (cngB m mu true (LL.getD k []) = true → ∀ j, j < k + 1 → cngB m mu true (LL.getD j []) = true) := Lib.hid fun h j hj => by
          rcases Nat.lt_succ_iff_lt_or_eq.1 hj with h2 | h2
          · exact HAL.out j h2
          · subst h2; exact h
        have HIK := Lib.hid fun aT cT K w ht => HIC.out _ hcl aT cT K w ht
        have hcl30 : (acl (LL.getD k [])).length = 30 := acl_len (by rw [hcl.1]; exact hle)
        have hi30 : (Try.prog.info? 63).map (·.size) = some (acl (LL.getD k [])).length := by rw [hcl30]; exact size_arr
        have HON := Lib.hid (ac_one (LL.getD k []))
        have HCC : Hid (ac (LL.getD k []) = (acl (LL.getD k [])).toArray) := Lib.hid rfl
        rw [HCC.out] at HIK HON
        clear hb hal hcs hcl HCC
        have HB0 : Hid (∃ B, B = cngB m mu true (LL.getD k [])) := Lib.hid ⟨_, rfl⟩
        obtain ⟨B, hB⟩ := HB0.out
        have HBE := Lib.hid hB
        rw [← hB] at HIK
        clear hB HB0
        generalize acl (LL.getD k []) = cs at *
        have HRG := Lib.hid hrg
        have HSA : Hid ((Try.prog.info? 63).map (·.size) = some cs.toArray.size) := Lib.hid (by rw [List.size_toArray]; exact hi30)
        have HSB : Hid (Z.size = cs.toArray.size) := Lib.hid (by rw [HZS.out, List.size_toArray, hcl30])
        clear hrg
        go_wp2_with (first
          | (with_reducible refine wpList_load_mid rfl 63 (.tmp 23) rfl b (k * 30) rfl cs _ HRG.out hu rfl hi30 ?_)
          | (with_reducible refine wpList_store_row rfl 63 (.tmp 11) (.tmp 24) rfl wr.heap.size cs.toArray rfl rfl 63 Z (halloc_at _ _ _ rfl) HSA.out HSB.out HON.out ?_)
          | (with_reducible refine wpList_load_row rfl 63 (.tmp 11) rfl wr.heap.size rfl 63 cs.toArray (0, 0) _ (setRow_heap _ _ Z _ _ _ (halloc_at _ _ _ rfl)) hu rfl HSA.out ?_))
        have HBX : Hid (Below w1.heap.size w1 ((wr.alloc (.cells Z 63)).setRow wr.heap.size cs.toArray)) := Lib.hid (below_setRow (HBR.out.alloc hsr _) hsr _)
        refine (HIK.out _ _ _ _ (HTB.out.below HBX.out)).mono ?_
        rintro e w2 ⟨rfl, hb2⟩
        have HB2 : Hid (Below w1.heap.size w1 w2) := Lib.hid (HBX.out.trans (hb2.mono HBX.out.size))
        clear hb2 HBX
        cases B
        · have HE2 := Lib.hid (HQK.out HBE.out.symm)
          go_wp2_with fail
          go_ret3
          exact ⟨HB.out.trans (HB2.out.mono hs1), Or.inl ⟨by rw [HE2.out]; decide, by rw [HE2.out]; rfl⟩⟩
        · have HV := Lib.hid (HALS.out HBE.out.symm)
          go_wp2_with fail
          go_roundw
          case rel => exact ⟨k + 1, by omega, by go_num, HB2.out, HV.out⟩
          case measure => simp [intOf]; omega
      · obtain rfl : k = LL.length := by omega
        have HE0 := Lib.hid (HQ0.out HAL.out)
        clear hb hal
        go_wp2_with fail
        go_ret3
        refine ⟨HB.out.trans (HBR.out.mono hs1), Or.inr ⟨HE0.out, HMO.out, by rw [← HM.out]; exact hle, fun j hj => by rw [← HM.out, ← HMU.out]; exact ⟨HCL.out j hj, HAL.out j hj⟩, a1, c1, a2, c2, by rw [← HM.out]; rfl, ?_, ?_⟩⟩
        · rw [← HM.out, ← HMU.out]
          exact (HTB.out.below HBR.out).up hsr (Nat.le_refl _)
        · rcases HIA.out with h0 | ⟨b, ha, hlt, hcs⟩
          · exact Or.inl h0
          · exact Or.inr ⟨b, ha, Nat.lt_of_lt_of_le hlt hsr, fun j hj => rangeAt_below (hcs j hj) hlt HBR.out⟩

/-- Two rows laid into a new block. -/
theorem rows_two {w : World} {a1 a2 : Option Addr} {X Y : List Int} {c1 c2 : Nat} (h1 : InRow w a1 X) (h2 : InRow w a2 Y) : InRows (w.alloc (.cells #[.slice a1 X.length c1, .slice a2 Y.length c2] 25)) (some ⟨w.heap.size, 0, none⟩) [X, Y] :=
  Or.inr ⟨w.heap.size, rfl, by simp, fun j hj => by
    have : j = 0 ∨ j = 1 := by simp at hj; omega
    rcases this with rfl | rfl
    · exact ⟨a1, c1, Joins.cell_of_block (halloc_at w _ _ rfl) 0, h1.below ((Below.refl _ _).alloc (Nat.le_refl _) _)⟩
    · exact ⟨a2, c2, Joins.cell_of_block (halloc_at w _ _ rfl) 1, h2.below ((Below.refl _ _).alloc (Nat.le_refl _) _)⟩⟩

theorem two_j {X Y : List Int} {Q : List Int → Prop} (h1 : Q X) (h2 : Q Y) : ∀ j, j < [X, Y].length → Q ([X, Y].getD j []) := fun j hj => by
  have : j = 0 ∨ j = 1 := by simp at hj; omega
  rcases this with rfl | rfl
  · exact h1
  · exact h2

/-- What spec.l06Both leaves. -/
def RetBo (L : List MapN) (X Y : List Int) (w : World) (e : Ending) (w' : World) : Prop :=
  Below w.heap.size w w' ∧ ((cgC L [X, Y] ≠ 0 ∧ e = .returned (.tuple #[.slice none 0 0, .int .i64 (cgC L [X, Y])])) ∨
    (cgC L [X, Y] = 0 ∧ Mon (fst0 L) (elsK L) ∧ (elsK L).length ≤ 30 ∧ (∀ j, j < [X, Y].length → Cls ([X, Y].getD j []) (elsK L).length ∧ cngB (elsK L).length (muK (fst0 L) (elsK L)) true ([X, Y].getD j []) = true) ∧ ∃ a cap, e = .returned (.tuple #[.slice a (elsK L).length cap, .int .i64 0]) ∧ Tb w' w'.heap.size a (elsK L).length (muK (fst0 L) (elsK L))))

set_option maxRecDepth 100000 in
set_option maxHeartbeats 4000000 in
theorem sbo_any (L : List MapN) (hl : L.length ≤ 1048576) (X : List Int) (hx : X.length ≤ 1048576) (Y : List Int) (hy : Y.length ≤ 1048576) (a : Option Addr) (c : Nat) (ax : Option Addr) (cx : Nat) (ay : Option Addr) (cy : Nat) (w : World) (hr : InRowM w a L) (hrx : InRow w ax X) (hry : InRow w ay Y) :
    Calls Try.prog 58 #[.slice a L.length c, .slice ax X.length cx, .slice ay Y.length cy] w (RetBo L X Y w) := by
  have hba : Below w.heap.size w (w.alloc (.cells #[.slice ax X.length cx, .slice ay Y.length cy] 25)) := (Below.refl _ _).alloc (Nat.le_refl _) _
  have HS := Lib.hid (scl_any a c L hl [X, Y] (by simp) (two_j (Q := fun Z => Z.length ≤ 1048576) hx hy) (some ⟨w.heap.size, 0, none⟩) 2 _ (hr.below hba) (rows_two (c1 := cx) (c2 := cy) hrx hry))
  have HRX := Lib.hid (hrx.below hba)
  have HRY := Lib.hid (hry.below hba)
  have HBA := Lib.hid hba
  clear hr hrx hry hba
  go_enter Try.func58, Try.ntmps58
  go_wp2_with fail
  refine HS.out.mono ?_
  rintro e w1 ⟨hb, ⟨hc, rfl⟩ | ⟨hc, hmon, hle, hcl, a1, c1, rfl, htb⟩⟩
  · have HB := Lib.hid (HBA.out.trans (hb.mono (by simp)))
    have HE := Lib.hid (cgC_bad (LL := [X, Y]) hc)
    have hne : (clC L [X, Y] != 0) = true := by simpa using hc
    have HC := Lib.hid hc
    clear hb hc
    generalize clC L [X, Y] = C at *
    go_wp2_with fail
    go_ret2
    exact ⟨HB.out, Or.inl ⟨by rw [HE.out]; exact HC.out, by rw [HE.out]; rfl⟩⟩
  · have hlx : X.length = (elsK L).length := (hcl 0 (by simp)).1
    have hly : Y.length = (elsK L).length := (hcl 1 (by simp)).1
    have HB := Lib.hid (HBA.out.trans (hb.mono (by simp)))
    have HX1 := Lib.hid (HRX.out.below hb)
    have HY1 := Lib.hid (HRY.out.below hb)
    have HCL := Lib.hid hcl
    have HMO := Lib.hid hmon
    have HLE := Lib.hid hle
    have H50 : Hid (eqLB (kerG (elsK L).length (muK (fst0 L) (elsK L)) true (fun i j => tL X i = tL X j)) X = false → cgC L [X, Y] = 5) := Lib.hid fun h => cgC_5 hc 0 (by simp) h
    have H51 : Hid (eqLB (kerG (elsK L).length (muK (fst0 L) (elsK L)) true (fun i j => tL Y i = tL Y j)) Y = false → cgC L [X, Y] = 5) := Lib.hid fun h => cgC_5 hc 1 (by simp) h
    have H0 : Hid (eqLB (kerG (elsK L).length (muK (fst0 L) (elsK L)) true (fun i j => tL X i = tL X j)) X = true → eqLB (kerG (elsK L).length (muK (fst0 L) (elsK L)) true (fun i j => tL Y i = tL Y j)) Y = true → cgC L [X, Y] = 0 ∧ ∀ j, j < [X, Y].length → cngB (elsK L).length (muK (fst0 L) (elsK L)) true ([X, Y].getD j []) = true) := Lib.hid fun h1 h2 =>
      have h := two_j (Q := fun Z => cngB (elsK L).length (muK (fst0 L) (elsK L)) true Z = true) h1 h2
      ⟨cgC_0 hc h, h⟩
    have hCX := fun aT cT a c K w ht hr => clsd_any (elsK L).length (by omega) (mon_pos hmon) (muK (fst0 L) (elsK L)) (fun i j hi hj => muK_lt hmon i j hi hj) true X hlx aT a cT c K w ht hr
    have hCY := fun aT cT a c K w ht hr => clsd_any (elsK L).length (by omega) (mon_pos hmon) (muK (fst0 L) (elsK L)) (fun i j hi hj => muK_lt hmon i j hi hj) true Y hly aT a cT c K w ht hr
    have hkx := kerG_len (elsK L).length (muK (fst0 L) (elsK L)) true (fun i j => tL X i = tL X j)
    have hky := kerG_len (elsK L).length (muK (fst0 L) (elsK L)) true (fun i j => tL Y i = tL Y j)
    have hEX := fun a1 a2 c1 c2 w h1 h2 => seq_any (kerG (elsK L).length (muK (fst0 L) (elsK L)) true (fun i j => tL X i = tL X j)) X (by omega) (by omega) a1 a2 c1 c2 w h1 h2
    have hEY := fun a1 a2 c1 c2 w h1 h2 => seq_any (kerG (elsK L).length (muK (fst0 L) (elsK L)) true (fun i j => tL Y i = tL Y j)) Y (by omega) (by omega) a1 a2 c1 c2 w h1 h2
    have HTB := Lib.hid htb
    rw [hkx, hlx] at hEX
    rw [hky, hly] at hEY
    have HCX := Lib.hid hCX
    have HCY := Lib.hid hCY
    have HEX := Lib.hid hEX
    have HEY := Lib.hid hEY
    clear hb hc hcl hmon htb HS hCX hCY hEX hEY
    generalize eqLB (kerG (elsK L).length (muK (fst0 L) (elsK L)) true (fun i j => tL X i = tL X j)) X = BX at *
    generalize eqLB (kerG (elsK L).length (muK (fst0 L) (elsK L)) true (fun i j => tL Y i = tL Y j)) Y = BY at *
    generalize kerG (elsK L).length (muK (fst0 L) (elsK L)) true (fun i j => tL X i = tL X j) = GX at *
    generalize kerG (elsK L).length (muK (fst0 L) (elsK L)) true (fun i j => tL Y i = tL Y j) = GY at *
    obtain ⟨m, hm⟩ : ∃ m, m = (elsK L).length := ⟨_, rfl⟩
    have HM := Lib.hid hm
    rw [← hm] at hlx hly hkx hky hle HCX HCY HEX HEY HTB ⊢
    clear hm
    rw [hlx, hly]
    clear hlx hly
    go_wp2_with fail
    refine (HCX.out _ _ _ _ _ _ HTB.out HX1.out).mono ?_
    rintro e w2 ⟨v, rfl, hown, hb2⟩
    obtain ⟨a2, c2, rfl, hrd⟩ := own_rd hown (by omega)
    have HB2 : Hid (Below w1.heap.size w1 w2) := Lib.hid hb2
    have HRD := Lib.hid hrd.inRow
    rw [hkx]
    clear hown hrd hb2
    go_wp2_with fail
    refine (HEX.out _ _ _ _ _ HRD.out (HX1.out.below HB2.out)).mono ?_
    rintro e w3 ⟨rfl, hb3⟩
    have HB3 : Hid (Below w1.heap.size w1 w3) := Lib.hid (HB2.out.trans (hb3.mono HB2.out.size))
    clear hb3
    cases BX
    · have HE5 := Lib.hid (H50.out rfl)
      go_wp2_with fail
      go_ret2
      exact ⟨HB.out.trans (HB3.out.mono HB.out.size), Or.inl ⟨by rw [HE5.out]; decide, by rw [HE5.out]; rfl⟩⟩
    · go_wp2_with fail
      refine (HCY.out _ _ _ _ _ _ (HTB.out.below HB3.out) (HY1.out.below HB3.out)).mono ?_
      rintro e w4 ⟨v, rfl, hown, hb4⟩
      obtain ⟨a4, c4, rfl, hrd⟩ := own_rd hown (by omega)
      have HB4 : Hid (Below w1.heap.size w1 w4) := Lib.hid (HB3.out.trans (hb4.mono HB3.out.size))
      have HRD := Lib.hid hrd.inRow
      rw [hky]
      clear hown hrd hb4
      go_wp2_with fail
      refine (HEY.out _ _ _ _ _ HRD.out (HY1.out.below HB4.out)).mono ?_
      rintro e w5 ⟨rfl, hb5⟩
      have HB5 : Hid (Below w1.heap.size w1 w5) := Lib.hid (HB4.out.trans (hb5.mono HB4.out.size))
      clear hb5
      cases BY
      · have HE5 := Lib.hid (H51.out rfl)
        go_wp2_with fail
        go_ret2
        exact ⟨HB.out.trans (HB5.out.mono HB.out.size), Or.inl ⟨by rw [HE5.out]; decide, by rw [HE5.out]; rfl⟩⟩
      · have HE0 := Lib.hid (H0.out (by simp) (by simp))
        go_wp2_with fail
        go_ret2
        refine ⟨HB.out.trans (HB5.out.mono HB.out.size), Or.inr ⟨HE0.out.1, HMO.out, HLE.out, fun j hj => ⟨HCL.out j hj, HE0.out.2 j hj⟩, a1, c1, by rw [← HM.out]; rfl, ?_⟩⟩
        rw [← HM.out]
        exact (HTB.out.below HB5.out).up HB5.out.size (Nat.le_refl _)

end Go.Proofs.Ytdgdcpcfjdnlcaa
