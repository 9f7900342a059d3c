/- The contracts of JoinCongruences, on both sides. -/
import Derived.Test.YtdgdcpcfjdnlcaaJoi
namespace Go.Proofs.Ytdgdcpcfjdnlcaa
open Go Go.RowKit

/-- The join of two congruences; nothing with an error. -/
noncomputable def joL (L : List MapN) (X Y : List Int) : List Int := if cgC L [X, Y] = 0 then kerG (elsK L).length (muK (fst0 L) (elsK L)) true (por (tL X) (tL Y)) else []

theorem joL_0 {L : List MapN} {X Y : List Int} (h : cgC L [X, Y] = 0) : joL L X Y = kerG (elsK L).length (muK (fst0 L) (elsK L)) true (por (tL X) (tL Y)) := by unfold joL; rw [if_pos h]
theorem joL_no {L : List MapN} {X Y : List Int} (h : cgC L [X, Y] ≠ 0) : joL L X Y = [] := by unfold joL; rw [if_neg h]

theorem rd_arr {w : World} {B g : Nat} {T : TypeId} {J : List Int} (hJ : J.length ≤ 30) (hB : B ≤ g) (h : w.heap[g]? = some (.cells (ac J) T (0, 0))) : Rd w B (some ⟨g, 0, none⟩) J :=
  ⟨by omega, Or.inr ⟨g, rfl, hB, (Array.getElem?_eq_some_iff.1 h).1, fun i hi => ⟨(Joins.cell_of_block h i).trans (ac_at J i (by omega)), Joins.unfrozen_of_block h i⟩⟩⟩

theorem Rd.low {w : World} {B B2 : Nat} {a : Option Addr} {J : List Int} (h : Rd w B a J) (hB : B2 ≤ B) : Rd w B2 a J := by
  refine ⟨h.1, ?_⟩
  rcases h.2 with h0 | ⟨g, ha, hg, rest⟩
  · exact Or.inl h0
  · exact Or.inr ⟨g, ha, Nat.le_trans hB hg, rest⟩

set_option maxRecDepth 100000 in
set_option maxHeartbeats 4000000 in
theorem sjnc_any (L : List MapN) (hl : L.length ≤ 1048576) (X : List Int) (hx : X.length ≤ 1048576) (_ : ∀ x ∈ X, (Lit.int .i64 x).wf = true) (Y : List Int) (hy : Y.length ≤ 1048576) (_ : ∀ x ∈ Y, (Lit.int .i64 x).wf = true) (a : Option Addr) (c : Nat) (_ : a = none → c = 0) (ax : Option Addr) (cx : Nat) (ay : Option Addr) (cy : Nat) (w : World) (hr : InRowM w a L) (hrx : InRow w ax X) (hry : InRow w ay Y) :
    Calls Try.prog 34 #[.slice a L.length c, .slice ax X.length cx, .slice ay Y.length cy] w (RetRow w.heap.size (joL L X Y) (cgC L [X, Y]) w) := by
  have HS := Lib.hid (sbo_any L hl X hx Y hy a c ax cx ay cy w hr hrx hry)
  have HRX := Lib.hid hrx
  have HRY := Lib.hid hry
  clear hr hrx hry
  go_enter Try.func34, Try.ntmps34
  go_wp2_with fail
  refine HS.out.mono ?_
  rintro e w1 ⟨hb, ⟨hc, rfl⟩ | ⟨hc, hmon, hle, hcl, a1, c1, rfl, htb⟩⟩
  · have HB := Lib.hid hb
    have HE := Lib.hid (joL_no hc)
    have hne : (cgC L [X, Y] != 0) = true := by simpa using hc
    clear hb hc
    generalize cgC L [X, Y] = C at *
    go_wp2_with fail
    go_ret2
    exact ⟨none, 0, by rw [HE.out]; rfl, ⟨by rw [HE.out]; simp, Or.inl HE.out⟩, HB.out⟩
  · have hlx : X.length = (elsK L).length := (hcl 0 (by simp)).1.1
    have hly : Y.length = (elsK L).length := (hcl 1 (by simp)).1.1
    have HB := Lib.hid hb
    have HX1 := Lib.hid (HRX.out.below hb)
    have HY1 := Lib.hid (HRY.out.below hb)
    have HE := Lib.hid (joL_0 hc)
    have HC0 := Lib.hid hc
    have hs1 := hb.size
    have HJO := Lib.hid fun aT ax ay cT cx cy K w ht hrx hry => sjoi_any (elsK L).length hle (mon_pos hmon) (muK (fst0 L) (elsK L)) (fun i j hi hj => muK_lt hmon i j hi hj) X Y hlx hly aT ax ay cT cx cy K w ht hrx hry
    have hkl := kerG_len (elsK L).length (muK (fst0 L) (elsK L)) true (por (tL X) (tL Y))
    have HTB := Lib.hid htb
    clear hb hc hcl hmon htb HS
    generalize kerG (elsK L).length (muK (fst0 L) (elsK L)) true (por (tL X) (tL Y)) = G at *
    generalize muK (fst0 L) (elsK L) = mu at *
    generalize (elsK L).length = m at *
    rw [hlx, hly]
    clear hlx hly
    go_wp2_with fail
    refine (HJO.out _ _ _ _ _ _ _ _ HTB.out HX1.out HY1.out).mono ?_
    rintro e w2 ⟨v, rfl, hown, hb2⟩
    obtain ⟨a2, c2, rfl, hrd⟩ := own_rd hown (by omega)
    have HB2 : Hid (Below w.heap.size w w2) := Lib.hid (HB.out.trans (hb2.mono hs1))
    have HRD := Lib.hid (hrd.low hs1)
    clear hown hrd hb2
    rw [hkl]
    go_wp2_with fail
    go_ret2
    exact ⟨a2, c2, by rw [HE.out, HC0.out, hkl]; rfl, by rw [HE.out]; exact HRD.out, HB2.out⟩

set_option maxRecDepth 100000 in
set_option maxHeartbeats 4000000 in
theorem ijnc_any (L : List MapN) (hl : L.length ≤ 1048576) (X : List Int) (_ : X.length ≤ 1048576) (hwx : ∀ x ∈ X, (Lit.int .i64 x).wf = true) (Y : List Int) (_ : Y.length ≤ 1048576) (hwy : ∀ x ∈ Y, (Lit.int .i64 x).wf = true) (a : Option Addr) (c : Nat) (hc0 : a = none → c = 0) (ax : Option Addr) (cx : Nat) (ay : Option Addr) (cy : Nat) (w : World) (hr : InRowM w a L) (hrx : InRow w ax X) (hry : InRow w ay Y) :
    Calls Try.prog 35 #[.slice a L.length c, .slice ax X.length cx, .slice ay Y.length cy] w (RetRow w.heap.size (joL L X Y) (cgC L [X, Y]) w) := by
  have hba : Below w.heap.size w (w.alloc (.cells #[.slice ax X.length cx, .slice ay Y.length cy] 25)) := (Below.refl _ _).alloc (Nat.le_refl _) _
  have HS := Lib.hid (icgf_any a c hc0 L hl [X, Y] (by simp) (two_j (Q := fun Z => ∀ x ∈ Z, (Lit.int .i64 x).wf = true) hwx hwy) (some ⟨w.heap.size, 0, none⟩) 2 _ (hr.below hba) (rows_two (c1 := cx) (c2 := cy) hrx hry))
  have HBA := Lib.hid hba
  clear hr hrx hry hba hc0
  go_enter Try.func35, Try.ntmps35
  go_wp2_with fail
  refine HS.out.mono ?_
  rintro e w1 ⟨hb, ⟨hc, rfl⟩ | ⟨hc, hmon, hle, hcl, a1, c1, a2, c2, rfl, htb, hia⟩⟩
  · have HB := Lib.hid (HBA.out.trans (hb.mono (by simp)))
    have HE := Lib.hid (joL_no hc)
    have hne : (cgC L [X, Y] != 0) = true := by simpa using hc
    clear hb hc
    generalize cgC L [X, Y] = C at *
    go_wp2_with fail
    go_ret2
    exact ⟨none, 0, by rw [HE.out]; rfl, ⟨by rw [HE.out]; simp, Or.inl HE.out⟩, HB.out⟩
  · obtain ⟨hclx, hcgx⟩ := hcl 0 (by simp)
    obtain ⟨hcly, hcgy⟩ := hcl 1 (by simp)
    rw [show [X, Y].getD 0 [] = X from rfl] at hclx hcgx
    rw [show [X, Y].getD 1 [] = Y from rfl] at hcly hcgy
    have HB := Lib.hid (HBA.out.trans (hb.mono (by simp)))
    have hs1 := HB.out.size
    have HE := Lib.hid (joL_0 hc)
    have HC0 := Lib.hid hc
    have hmu2 := fun i j hi hj => muK_lt hmon i j hi hj
    obtain ⟨b2, rfl, hb2, hrg⟩ := hia.resolve_left (by simp)
    have hrg0 := hrg 0 (by simp)
    have hrg1 := hrg 1 (by simp)
    rw [show [X, Y].getD 0 [] = X from rfl, Nat.zero_mul] at hrg0
    rw [show [X, Y].getD 1 [] = Y from rfl, Nat.one_mul] at hrg1
    have hcx30 : (acl X).length = 30 := acl_len (by rw [hclx.1]; exact hle)
    have hcy30 : (acl Y).length = 30 := acl_len (by rw [hcly.1]; exact hle)
    have hix : (Try.prog.info? 63).map (·.size) = some (acl X).length := by rw [hcx30]; exact size_arr
    have hiy : (Try.prog.info? 63).map (·.size) = some (acl Y).length := by rw [hcy30]; exact size_arr
    have hu := Try.underlying63
    have HJO := Lib.hid fun aT cT w => ijoi_any (elsK L).length hle (mon_pos hmon) (muK (fst0 L) (elsK L)) hmu2 X Y hclx hcly (cls_cgr hmu2 hcgx) (cls_cgr hmu2 hcgy) aT cT w
    have hkl := kerG_len (elsK L).length (muK (fst0 L) (elsK L)) true (por (tL X) (tL Y))
    have HCLI := Lib.hid fun (J : List Int) (hJ : J.length = (elsK L).length) a c w => clist_any (elsK L).length hle (ac J) (ac_size (by rw [hJ]; exact hle)) a c w
    have HRA : Hid (∀ (J : List Int) (z : World) (B g : Nat), J.length = (elsK L).length → B ≤ g → z.heap[g]? = some (.cells (ac J) 63 (0, 0)) → Rd z B (some ⟨g, 0, none⟩) J) := Lib.hid fun J z B g hJ hB h => rd_arr (by omega) hB h
    have HCX : Hid (ac X = (acl X).toArray) := Lib.hid rfl
    have HCY : Hid (ac Y = (acl Y).toArray) := Lib.hid rfl
    rw [HCX.out, HCY.out] at HJO
    clear hb hc hcl hmon htb HS hrg hia hclx hcly hcgx hcgy hmu2 HCX HCY hcx30 hcy30
    generalize kerG (elsK L).length (muK (fst0 L) (elsK L)) true (por (tL X) (tL Y)) = J at *
    generalize muK (fst0 L) (elsK L) = mu at *
    generalize (elsK L).length = m at *
    generalize acl X = xs at *
    generalize acl Y = ys at *
    have HCLJ := Lib.hid fun a c w => HCLI.out J hkl a c w
    have HRAJ := Lib.hid fun z B g hB h => HRA.out J z B g hkl hB h
    clear HCLI HRA
    obtain ⟨CJ, hCJ⟩ : ∃ CJ, CJ = ac J := ⟨_, rfl⟩
    rw [← hCJ] at HJO HCLJ HRAJ
    clear hCJ
    have HK : Hid (∀ z, Below w1.heap.size w1 z → (z.rangeAt b2 0 xs ∧ z.rangeAt b2 30 ys) ∧ Below w1.heap.size w1 z) := Lib.hid fun z hz => ⟨⟨rangeAt_below hrg0 hb2 hz, rangeAt_below hrg1 hb2 hz⟩, hz⟩
    clear hrg0 hrg1
    have hz02 : (0 : Int) < 2 := by decide
    have hz12 : (1 : Int) < 2 := by decide
    go_wp2_with fail
    refine wp_region_held_drew (S := fun w' => (w'.rangeAt b2 0 xs ∧ w'.rangeAt b2 30 ys) ∧ Below w1.heap.size w1 w') (by kernel_rfl) (HK.out _ (Below.refl _ _).drew) (fun hHeld => ?_)
    refine wpAnyH_take (i := 0) (v := .slice a1 m c1) rfl (by kernel_rfl) (by kernel_rfl) (by kernel_rfl) (fun _ _ _ h => h) (Or.inl ⟨by rfl, fun w hSw => by rfl⟩) hHeld ?_
    simp only [Act.put, List.setIfInBounds_toArray, List.set_cons_zero, List.set_cons_succ, List.getElem_cons_zero, List.getElem_toArray]
    refine wpAnyH_take (i := 1) (v := .slice a1 m c1) rfl (by kernel_rfl) (by kernel_rfl) (by kernel_rfl) (fun _ _ _ h => h) (Or.inl ⟨by rfl, fun w hSw => by rfl⟩) hHeld ?_
    simp only [Act.put, List.setIfInBounds_toArray, List.set_cons_zero, List.set_cons_succ, List.getElem_cons_zero, List.getElem_cons_succ, List.getElem_toArray]
    refine wpAnyH_take (i := 2) (v := .slice (some ⟨b2, 0, none⟩) 2 c2) rfl (by kernel_rfl) (by kernel_rfl) (by kernel_rfl) (fun _ _ _ h => h) (Or.inl ⟨by rfl, fun w hSw => by rfl⟩) hHeld ?_
    simp only [Act.put, List.setIfInBounds_toArray, List.set_cons_zero, List.set_cons_succ, List.getElem_cons_zero, List.getElem_cons_succ, List.getElem_toArray]
    refine wpAnyH_take (i := 3) (v := .pointer (some ⟨b2, 0, none⟩)) rfl (by kernel_rfl) (by kernel_rfl) (by kernel_rfl) (fun _ _ _ h => h) (Or.inl ⟨by rfl, fun w hSw => by go_simp⟩) hHeld ?_
    simp only [Act.put, List.setIfInBounds_toArray, List.set_cons_zero, List.set_cons_succ, List.getElem_cons_zero, List.getElem_cons_succ, List.getElem_toArray]
    refine wpAnyH_take (i := 4) (v := .agg xs.toArray) rfl (by kernel_rfl) (by kernel_rfl) (by kernel_rfl) (fun _ _ _ h => h) (yieldsIf_load_mid (by rfl) _ _ rfl _ _ rfl xs _ (fun w hSw => hSw.1.1) hu rfl hix) hHeld ?_
    simp only [Act.put, List.setIfInBounds_toArray, List.set_cons_zero, List.set_cons_succ, List.getElem_cons_zero, List.getElem_cons_succ, List.getElem_toArray]
    refine wpAnyH_take (i := 5) (v := .slice (some ⟨b2, 0, none⟩) 2 c2) rfl (by kernel_rfl) (by kernel_rfl) (by kernel_rfl) (fun _ _ _ h => h) (Or.inl ⟨by rfl, fun w hSw => by rfl⟩) hHeld ?_
    simp only [Act.put, List.setIfInBounds_toArray, List.set_cons_zero, List.set_cons_succ, List.getElem_cons_zero, List.getElem_cons_succ, List.getElem_toArray]
    refine wpAnyH_take (i := 6) (v := .pointer (some ⟨b2, 30, none⟩)) rfl (by kernel_rfl) (by kernel_rfl) (by kernel_rfl) (fun _ _ _ h => h) (Or.inl ⟨by rfl, fun w hSw => by go_simp⟩) hHeld ?_
    simp only [Act.put, List.setIfInBounds_toArray, List.set_cons_zero, List.set_cons_succ, List.getElem_cons_zero, List.getElem_cons_succ, List.getElem_toArray]
    refine wpAnyH_take (i := 7) (v := .agg ys.toArray) rfl (by kernel_rfl) (by kernel_rfl) (by kernel_rfl) (fun _ _ _ h => h) (yieldsIf_load_mid (by rfl) _ _ rfl _ _ rfl ys _ (fun w hSw => hSw.1.2) hu rfl hiy) hHeld ?_
    simp only [Act.put, List.setIfInBounds_toArray, List.set_cons_zero, List.set_cons_succ, List.getElem_cons_zero, List.getElem_cons_succ, List.getElem_toArray]
    refine wpAnyH_ready (rs := [8]) (by kernel_rfl) (by simp) ?_
    refine AllReadyH.cons rfl (fun K hK => ?_) AllReadyH.nil
    go_simp
    refine (HJO.out _ _ _).mono ?_
    rintro e w2 ⟨rfl, hb3⟩
    have HB2 : Hid (Below w1.heap.size w1 w2) := Lib.hid ((Below.refl w1.heap.size w1).drew.trans hb3)
    clear hb3
    refine hK.out _ _ (HK.out _ HB2.out) (fun hHeld => ?_)
    clear hK K
    (try simp only [Act.put, List.setIfInBounds_toArray, List.set_cons_zero, List.set_cons_succ, List.getElem_cons_zero, List.getElem_cons_succ, List.getElem_toArray])
    refine wpAnyH_ready (rs := [9]) (by kernel_rfl) (by simp) ?_
    refine AllReadyH.cons rfl (fun K hK => ?_) AllReadyH.nil
    go_simp
    refine (HCLJ.out _ _ _).mono ?_
    rintro e w3 ⟨rfl, hw3⟩
    have hs2 := HB2.out.size
    have HB3 : Hid (Below w1.heap.size w1 w3) := Lib.hid (by rw [hw3]; exact HB2.out.alloc hs2 _)
    have HRD : Hid (Rd w3 w.heap.size (some ⟨w2.heap.size, 0, none⟩) J) := Lib.hid (HRAJ.out w3 w.heap.size w2.heap.size (by omega) (by rw [hw3]; exact halloc_at _ _ _ rfl))
    clear hw3
    refine hK.out _ _ (HK.out _ HB3.out) (fun hHeld => ?_)
    clear hK K
    (try simp only [Act.put, List.setIfInBounds_toArray, List.set_cons_zero, List.set_cons_succ, List.getElem_cons_zero, List.getElem_cons_succ, List.getElem_toArray])
    refine wpAnyH_take (i := 10) (v := .slice (some ⟨w2.heap.size, 0, none⟩) m 30) rfl (by kernel_rfl) (by kernel_rfl) (by kernel_rfl) (fun _ _ _ h => h) (Or.inl ⟨by rfl, fun w hSw => by rfl⟩) hHeld ?_
    simp only [Act.put, List.setIfInBounds_toArray, List.set_cons_zero, List.set_cons_succ, List.getElem_cons_zero, List.getElem_cons_succ, List.getElem_toArray]
    refine wpAnyH_take (i := 11) (v := .int .i64 0) rfl (by kernel_rfl) (by kernel_rfl) (by kernel_rfl) (fun _ _ _ h => h) (Or.inl ⟨by rfl, fun w hSw => by rfl⟩) hHeld ?_
    simp only [Act.put, List.setIfInBounds_toArray, List.set_cons_zero, List.set_cons_succ, List.getElem_cons_zero, List.getElem_cons_succ, List.getElem_toArray]
    refine wpAnyH_done (by kernel_rfl) ?_ _
    go_wp2_with fail
    go_ret2
    exact ⟨_, 30, by rw [HE.out, HC0.out, hkl]; rfl, by rw [HE.out]; exact HRD.out, HB.out.trans (HB3.out.mono hs1)⟩

end Go.Proofs.Ytdgdcpcfjdnlcaa
