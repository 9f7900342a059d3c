/- The contracts of IsRightCongruence and IsCongruence, on both sides. -/
import Derived.Test.YtdgdcpcfjdnlcaaClf
import Derived.Test.YtdgdcpcfjdnlcaaClsd
import Derived.Test.YtdgdcpcfjdnlcaaMby
namespace Go.Proofs.Ytdgdcpcfjdnlcaa
open Go Go.RowKit

/-- Whether classes are a (right) congruence; false with an error. -/
noncomputable def icB (s : Bool) (L : List MapN) (X : List Int) : Bool := if clC L [X] = 0 then cngB (elsK L).length (muK (fst0 L) (elsK L)) s X else false

theorem icB_0 {s : Bool} {L : List MapN} {X : List Int} (h : clC L [X] = 0) : icB s L X = cngB (elsK L).length (muK (fst0 L) (elsK L)) s X := by unfold icB; rw [if_pos h]
theorem icB_no {s : Bool} {L : List MapN} {X : List Int} (h : clC L [X] ≠ 0) : icB s L X = false := by unfold icB; rw [if_neg h]

/-- One row laid into a new block. -/
theorem rows_one {w : World} {a : Option Addr} {X : List Int} {c : Nat} (h : InRow w a X) : InRows (w.alloc (.cells #[.slice a X.length c] 25)) (some ⟨w.heap.size, 0, none⟩) [X] :=
  Or.inr ⟨w.heap.size, rfl, by simp, fun j hj => by
    have : j = 0 := by simpa using hj
    subst this
    exact ⟨a, c, Joins.cell_of_block (halloc_at w _ _ rfl) 0, h.below ((Below.refl _ _).alloc (Nat.le_refl _) _)⟩⟩

theorem one_j {X : List Int} {Q : List Int → Prop} (h : Q X) : ∀ j, j < [X].length → Q ([X].getD j []) := fun j hj => by
  have : j = 0 := by simpa using hj
  subst this
  exact h

set_option maxRecDepth 100000 in
set_option maxHeartbeats 2000000 in
theorem sisr_any (L : List MapN) (hl : L.length ≤ 1048576) (X : List Int) (hx : X.length ≤ 1048576) (_ : ∀ x ∈ X, (Lit.int .i64 x).wf = true) (a : Option Addr) (c : Nat) (_ : a = none → c = 0) (ax : Option Addr) (cx : Nat) (w : World) (hr : InRowM w a L) (hrx : InRow w ax X) :
    Calls Try.prog 29 #[.slice a L.length c, .slice ax X.length cx] w fun e w' => e = .returned (.tuple #[.bool (icB false L X), .int .i64 (clC L [X])]) ∧ Below w.heap.size w w' := by
  have hba : Below w.heap.size w (w.alloc (.cells #[.slice ax X.length cx] 25)) := (Below.refl _ _).alloc (Nat.le_refl _) _
  have HS := Lib.hid (scl_any a c L hl [X] (by simp) (one_j (Q := fun Y => Y.length ≤ 1048576) hx) (some ⟨w.heap.size, 0, none⟩) 1 _ (hr.below hba) (rows_one (c := cx) hrx))
  have HR := Lib.hid (hrx.below hba)
  have HBA := Lib.hid hba
  clear hr hrx hba
  go_enter Try.func29, Try.ntmps29
  go_wp2_with fail
  refine HS.out.mono ?_
  rintro e w1 ⟨hb, ⟨hc, rfl⟩ | ⟨hc, hmon, hle, hcl, a1, c1, rfl, htb⟩⟩
  · have HB := Lib.hid (HBA.out.trans (hb.mono (by simp)))
    have HE := Lib.hid (icB_no (s := false) hc)
    have hne : (clC L [X] != 0) = true := by simpa using hc
    clear hb hc
    generalize hCE : clC L [X] = C at *
    have HCE := Lib.hid hCE
    clear hCE
    go_wp2_with fail
    go_ret2
    exact ⟨by rw [HE.out, HCE.out]; rfl, HB.out⟩
  · have hlen := (hcl 0 (by simp)).1
    rw [show [X].getD 0 [] = X from rfl] at hlen
    have HB := Lib.hid (HBA.out.trans (hb.mono (by simp)))
    have HX1 := Lib.hid (HR.out.below hb)
    have HE : Hid (icB false L X = eqLB (kerG (elsK L).length (muK (fst0 L) (elsK L)) false (fun i j => tL X i = tL X j)) X) := Lib.hid ((icB_0 hc).trans rfl)
    have HC0 := Lib.hid hc
    have HCL := Lib.hid fun aT cT a c K w ht hr => clsd_any (elsK L).length (by omega) (mon_pos hmon) (muK (fst0 L) (elsK L)) (fun i j hi hj => muK_lt hmon i j hi hj) false X hlen aT a cT c K w ht hr
    have hkl := kerG_len (elsK L).length (muK (fst0 L) (elsK L)) false (fun i j => tL X i = tL X j)
    have HEQ := Lib.hid fun a1 a2 c1 c2 w h1 h2 => seq_any (kerG (elsK L).length (muK (fst0 L) (elsK L)) false (fun i j => tL X i = tL X j)) X (by omega) (by omega) a1 a2 c1 c2 w h1 h2
    have HTB := Lib.hid htb
    clear hb hc hcl hmon htb HS
    generalize kerG (elsK L).length (muK (fst0 L) (elsK L)) false (fun i j => tL X i = tL X j) = G at *
    generalize hmu : muK (fst0 L) (elsK L) = mu at *
    generalize hm : (elsK L).length = m at *
    have HCL2 := HCL.out
    have HEQ2 := HEQ.out
    rw [hkl, hlen] at HEQ2
    rw [hlen]
    have HEQ := Lib.hid HEQ2
    have HCL := Lib.hid HCL2
    clear HCL2 HEQ2
    generalize eqLB G X = B at *
    go_wp2_with fail
    refine (HCL.out _ _ _ _ _ _ HTB.out HX1.out).mono ?_
    rintro e w2 ⟨v, rfl, hown, hb2⟩
    obtain ⟨a2, c2, rfl, hrd⟩ := own_rd hown (by omega)
    have HB2 := Lib.hid (HB.out.trans (hb2.mono HB.out.size))
    have HRD := Lib.hid hrd.inRow
    have HX2 := Lib.hid (HX1.out.below hb2)
    clear hown hrd hb2
    rw [hkl]
    clear hkl
    go_wp2_with fail
    refine (HEQ.out _ _ _ _ _ HRD.out HX2.out).mono ?_
    rintro e w3 ⟨rfl, hb3⟩
    have HB3 := Lib.hid (HB2.out.trans (hb3.mono HB2.out.size))
    clear hb3
    go_wp2_with fail
    go_ret2
    exact ⟨by rw [HE.out, HC0.out]; rfl, HB3.out⟩

set_option maxRecDepth 100000 in
set_option maxHeartbeats 2000000 in
theorem sisc_any (L : List MapN) (hl : L.length ≤ 1048576) (X : List Int) (hx : X.length ≤ 1048576) (_ : ∀ x ∈ X, (Lit.int .i64 x).wf = true) (a : Option Addr) (c : Nat) (_ : a = none → c = 0) (ax : Option Addr) (cx : Nat) (w : World) (hr : InRowM w a L) (hrx : InRow w ax X) :
    Calls Try.prog 32 #[.slice a L.length c, .slice ax X.length cx] w fun e w' => e = .returned (.tuple #[.bool (icB true L X), .int .i64 (clC L [X])]) ∧ Below w.heap.size w w' := by
  have hba : Below w.heap.size w (w.alloc (.cells #[.slice ax X.length cx] 25)) := (Below.refl _ _).alloc (Nat.le_refl _) _
  have HS := Lib.hid (scl_any a c L hl [X] (by simp) (one_j (Q := fun Y => Y.length ≤ 1048576) hx) (some ⟨w.heap.size, 0, none⟩) 1 _ (hr.below hba) (rows_one (c := cx) hrx))
  have HR := Lib.hid (hrx.below hba)
  have HBA := Lib.hid hba
  clear hr hrx hba
  go_enter Try.func32, Try.ntmps32
  go_wp2_with fail
  refine HS.out.mono ?_
  rintro e w1 ⟨hb, ⟨hc, rfl⟩ | ⟨hc, hmon, hle, hcl, a1, c1, rfl, htb⟩⟩
  · have HB := Lib.hid (HBA.out.trans (hb.mono (by simp)))
    have HE := Lib.hid (icB_no (s := true) hc)
    have hne : (clC L [X] != 0) = true := by simpa using hc
    clear hb hc
    generalize hCE : clC L [X] = C at *
    have HCE := Lib.hid hCE
    clear hCE
    go_wp2_with fail
    go_ret2
    exact ⟨by rw [HE.out, HCE.out]; rfl, HB.out⟩
  · have hlen := (hcl 0 (by simp)).1
    rw [show [X].getD 0 [] = X from rfl] at hlen
    have HB := Lib.hid (HBA.out.trans (hb.mono (by simp)))
    have HX1 := Lib.hid (HR.out.below hb)
    have HE : Hid (icB true L X = eqLB (kerG (elsK L).length (muK (fst0 L) (elsK L)) true (fun i j => tL X i = tL X j)) X) := Lib.hid ((icB_0 hc).trans rfl)
    have HC0 := Lib.hid hc
    have HCL := Lib.hid fun aT cT a c K w ht hr => clsd_any (elsK L).length (by omega) (mon_pos hmon) (muK (fst0 L) (elsK L)) (fun i j hi hj => muK_lt hmon i j hi hj) true X hlen aT a cT c K w ht hr
    have hkl := kerG_len (elsK L).length (muK (fst0 L) (elsK L)) true (fun i j => tL X i = tL X j)
    have HEQ := Lib.hid fun a1 a2 c1 c2 w h1 h2 => seq_any (kerG (elsK L).length (muK (fst0 L) (elsK L)) true (fun i j => tL X i = tL X j)) X (by omega) (by omega) a1 a2 c1 c2 w h1 h2
    have HTB := Lib.hid htb
    clear hb hc hcl hmon htb HS
    generalize kerG (elsK L).length (muK (fst0 L) (elsK L)) true (fun i j => tL X i = tL X j) = G at *
    generalize hmu : muK (fst0 L) (elsK L) = mu at *
    generalize hm : (elsK L).length = m at *
    have HCL2 := HCL.out
    have HEQ2 := HEQ.out
    rw [hkl, hlen] at HEQ2
    rw [hlen]
    have HEQ := Lib.hid HEQ2
    have HCL := Lib.hid HCL2
    clear HCL2 HEQ2
    generalize eqLB G X = B at *
    go_wp2_with fail
    refine (HCL.out _ _ _ _ _ _ HTB.out HX1.out).mono ?_
    rintro e w2 ⟨v, rfl, hown, hb2⟩
    obtain ⟨a2, c2, rfl, hrd⟩ := own_rd hown (by omega)
    have HB2 := Lib.hid (HB.out.trans (hb2.mono HB.out.size))
    have HRD := Lib.hid hrd.inRow
    have HX2 := Lib.hid (HX1.out.below hb2)
    clear hown hrd hb2
    rw [hkl]
    clear hkl
    go_wp2_with fail
    refine (HEQ.out _ _ _ _ _ HRD.out HX2.out).mono ?_
    rintro e w3 ⟨rfl, hb3⟩
    have HB3 := Lib.hid (HB2.out.trans (hb3.mono HB2.out.size))
    clear hb3
    go_wp2_with fail
    go_ret2
    exact ⟨by rw [HE.out, HC0.out]; rfl, HB3.out⟩

set_option maxRecDepth 100000 in
set_option maxHeartbeats 4000000 in
theorem iisr_any (L : List MapN) (hl : L.length ≤ 1048576) (X : List Int) (_ : X.length ≤ 1048576) (hw : ∀ x ∈ X, (Lit.int .i64 x).wf = true) (a : Option Addr) (c : Nat) (hc0 : a = none → c = 0) (ax : Option Addr) (cx : Nat) (w : World) (hr : InRowM w a L) (hrx : InRow w ax X) :
    Calls Try.prog 31 #[.slice a L.length c, .slice ax X.length cx] w fun e w' => e = .returned (.tuple #[.bool (icB false L X), .int .i64 (clC L [X])]) ∧ Below w.heap.size w w' := by
  have hba : Below w.heap.size w (w.alloc (.cells #[.slice ax X.length cx] 25)) := (Below.refl _ _).alloc (Nat.le_refl _) _
  have HS := Lib.hid (icl_any a c hc0 L hl [X] (by simp) (one_j (Q := fun Y => ∀ x ∈ Y, (Lit.int .i64 x).wf = true) hw) (some ⟨w.heap.size, 0, none⟩) 1 _ (hr.below hba) (rows_one (c := cx) hrx))
  have HBA := Lib.hid hba
  clear hr hrx hba hc0
  go_enter Try.func31, Try.ntmps31
  go_wp2_with fail
  refine HS.out.mono ?_
  rintro e w1 ⟨hb, ⟨hc, rfl⟩ | ⟨hc, hmon, hle, hcl, a1, c1, a2, c2, rfl, htb, hia⟩⟩
  · have HB := Lib.hid (HBA.out.trans (hb.mono (by simp)))
    have HE := Lib.hid (icB_no (s := false) hc)
    have hne : (clC L [X] != 0) = true := by simpa using hc
    clear hb hc
    generalize hCE : clC L [X] = C at *
    have HCE := Lib.hid hCE
    clear hCE
    go_wp2_with fail
    go_ret2
    exact ⟨by rw [HE.out, HCE.out]; rfl, HB.out⟩
  · have hcls := hcl 0 (by simp)
    rw [show [X].getD 0 [] = X from rfl] at hcls
    have HB := Lib.hid (HBA.out.trans (hb.mono (by simp)))
    have HE := Lib.hid (icB_0 (s := false) hc)
    have HC0 := Lib.hid hc
    have hm1 := mon_pos hmon
    have hmu2 := fun i j hi hj => muK_lt hmon i j hi hj
    obtain ⟨b2, rfl, hb2, hrg⟩ := hia.resolve_left (by simp)
    have hrg0 := hrg 0 (by simp)
    rw [show [X].getD 0 [] = X from rfl, Nat.zero_mul] at hrg0
    have hcl30 : (acl X).length = 30 := acl_len (by rw [hcls.1]; exact hle)
    have hi30 : (Try.prog.info? 63).map (·.size) = some (acl X).length := by rw [hcl30]; exact size_arr
    have hu := Try.underlying63
    have HTB := Lib.hid htb
    clear hb hc hcl htb HS hrg hia
    have HPI := Lib.hid fun w => pairsIn2_any (elsK L).length hle hm1 X hcls a1 c1 w
    have HMB := Lib.hid fun a c w hT hP => pinmade_any (elsK L).length hle hm1 (muK (fst0 L) (elsK L)) hmu2 false X a1 a c1 c w1.heap.size w hT hP
    have hkl := kerG_len (elsK L).length (muK (fst0 L) (elsK L)) false (fun i j => tL X i = tL X j)
    have HEQ := fun w => eq30 (kerG (elsK L).length (muK (fst0 L) (elsK L)) false (fun i j => tL X i = tL X j)) X (by omega) (by rw [hkl, hcls.1]) (ker_wf _ _ (by omega)) (hcls.wf (by omega)) w
    have HCC : Hid (ac X = (acl X).toArray) := Lib.hid rfl
    have HCB : Hid (cngB (elsK L).length (muK (fst0 L) (elsK L)) false X = decide (kerG (elsK L).length (muK (fst0 L) (elsK L)) false (fun i j => tL X i = tL X j) = X)) := Lib.hid rfl
    rw [← HCB.out] at HEQ
    rw [HCC.out] at HPI HEQ
    clear hcls hmu2 hm1 hmon HCC HCB hkl
    generalize cngB (elsK L).length (muK (fst0 L) (elsK L)) false X = B at *
    generalize kerG (elsK L).length (muK (fst0 L) (elsK L)) false (fun i j => tL X i = tL X j) = G at *
    generalize muK (fst0 L) (elsK L) = mu at *
    generalize (elsK L).length = m at *
    generalize acl X = cs at *
    generalize ac G = CG at *
    generalize hIP : pin X m = PI at *
    clear hIP
    have HK : Hid (∀ z, Below w1.heap.size w1 z → z.rangeAt b2 0 cs ∧ Below w1.heap.size w1 z) := Lib.hid fun z hz => ⟨rangeAt_below hrg0 hb2 hz, hz⟩
    clear hrg0
    have hz01 : (0 : Int) < 1 := by decide
    go_wp2_with fail
    refine wp_region_held_drew (S := fun w' => w'.rangeAt b2 0 cs ∧ Below w1.heap.size w1 w') (by kernel_rfl) (HK.out _ (Below.refl _ _).drew) (fun hHeld => ?_)
    refine wpAnyH_take (i := 0) (v := .slice a1 m c1) rfl (by kernel_rfl) (by kernel_rfl) (by kernel_rfl) (fun _ _ _ h => h) (Or.inl ⟨by rfl, fun w hSw => by rfl⟩) hHeld ?_
    simp only [Act.put, List.setIfInBounds_toArray, List.set_cons_zero, List.set_cons_succ, List.getElem_cons_zero, List.getElem_toArray]
    refine wpAnyH_take (i := 1) (v := .slice a1 m c1) rfl (by kernel_rfl) (by kernel_rfl) (by kernel_rfl) (fun _ _ _ h => h) (Or.inl ⟨by rfl, fun w hSw => by rfl⟩) hHeld ?_
    simp only [Act.put, List.setIfInBounds_toArray, List.set_cons_zero, List.set_cons_succ, List.getElem_cons_zero, List.getElem_cons_succ, List.getElem_toArray]
    refine wpAnyH_take (i := 2) (v := .slice (some ⟨b2, 0, none⟩) 1 c2) rfl (by kernel_rfl) (by kernel_rfl) (by kernel_rfl) (fun _ _ _ h => h) (Or.inl ⟨by rfl, fun w hSw => by rfl⟩) hHeld ?_
    simp only [Act.put, List.setIfInBounds_toArray, List.set_cons_zero, List.set_cons_succ, List.getElem_cons_zero, List.getElem_cons_succ, List.getElem_toArray]
    refine wpAnyH_take (i := 3) (v := .pointer (some ⟨b2, 0, none⟩)) rfl (by kernel_rfl) (by kernel_rfl) (by kernel_rfl) (fun _ _ _ h => h) (Or.inl ⟨by rfl, fun w hSw => by go_simp⟩) hHeld ?_
    simp only [Act.put, List.setIfInBounds_toArray, List.set_cons_zero, List.set_cons_succ, List.getElem_cons_zero, List.getElem_cons_succ, List.getElem_toArray]
    refine wpAnyH_take (i := 4) (v := .agg cs.toArray) rfl (by kernel_rfl) (by kernel_rfl) (by kernel_rfl) (fun _ _ _ h => h) (yieldsIf_load_mid (by rfl) _ _ rfl _ _ rfl cs _ (fun w hSw => hSw.1) hu rfl hi30) hHeld ?_
    simp only [Act.put, List.setIfInBounds_toArray, List.set_cons_zero, List.set_cons_succ, List.getElem_cons_zero, List.getElem_cons_succ, List.getElem_toArray]
    refine wpAnyH_take (i := 7) (v := .slice (some ⟨b2, 0, none⟩) 1 c2) rfl (by kernel_rfl) (by kernel_rfl) (by kernel_rfl) (fun _ _ _ h => h) (Or.inl ⟨by rfl, fun w hSw => by rfl⟩) hHeld ?_
    simp only [Act.put, List.setIfInBounds_toArray, List.set_cons_zero, List.set_cons_succ, List.getElem_cons_zero, List.getElem_cons_succ, List.getElem_toArray]
    refine wpAnyH_take (i := 8) (v := .pointer (some ⟨b2, 0, none⟩)) rfl (by kernel_rfl) (by kernel_rfl) (by kernel_rfl) (fun _ _ _ h => h) (Or.inl ⟨by rfl, fun w hSw => by go_simp⟩) hHeld ?_
    simp only [Act.put, List.setIfInBounds_toArray, List.set_cons_zero, List.set_cons_succ, List.getElem_cons_zero, List.getElem_cons_succ, List.getElem_toArray]
    refine wpAnyH_take (i := 9) (v := .agg cs.toArray) rfl (by kernel_rfl) (by kernel_rfl) (by kernel_rfl) (fun _ _ _ h => h) (yieldsIf_load_mid (by rfl) _ _ rfl _ _ rfl cs _ (fun w hSw => hSw.1) hu rfl hi30) hHeld ?_
    simp only [Act.put, List.setIfInBounds_toArray, List.set_cons_zero, List.set_cons_succ, List.getElem_cons_zero, List.getElem_cons_succ, List.getElem_toArray]
    refine wpAnyH_ready (rs := [5]) (by kernel_rfl) (by simp) ?_
    refine AllReadyH.cons rfl (fun K hK => ?_) AllReadyH.nil
    go_simp
    refine (HPI.out _).mono ?_
    rintro e w2 ⟨a3, c3, rfl, hin1, hb3⟩
    have HI1 := Lib.hid hin1
    have HB2 : Hid (Below w1.heap.size w1 w2) := Lib.hid ((Below.refl w1.heap.size w1).drew.trans hb3)
    clear hin1 hb3
    refine hK.out _ _ (HK.out _ HB2.out) (fun hHeld => ?_)
    clear hK K
    (try simp only [Act.put, List.setIfInBounds_toArray, List.set_cons_zero, List.set_cons_succ, List.getElem_cons_zero, List.getElem_cons_succ, List.getElem_toArray])
    refine wpAnyH_ready (rs := [6]) (by kernel_rfl) (by simp) ?_
    refine AllReadyH.cons rfl (fun K hK => ?_) AllReadyH.nil
    go_simp
    refine (HMB.out _ _ _ (HTB.out.below HB2.out) HI1.out).mono ?_
    rintro e w3 ⟨rfl, hb3⟩
    have HB3 : Hid (Below w1.heap.size w1 w3) := Lib.hid (HB2.out.trans (hb3.mono HB2.out.size))
    clear hb3
    refine hK.out _ _ (HK.out _ HB3.out) (fun hHeld => ?_)
    clear hK K
    (try simp only [Act.put, List.setIfInBounds_toArray, List.set_cons_zero, List.set_cons_succ, List.getElem_cons_zero, List.getElem_cons_succ, List.getElem_toArray])
    refine wpAnyH_take (i := 10) (v := .bool B) rfl (by kernel_rfl) (by kernel_rfl) (by kernel_rfl) (fun _ _ _ h => h) (Or.inl ⟨by rfl, fun w hSw => by go_simp⟩) hHeld ?_
    simp only [Act.put, List.setIfInBounds_toArray, List.set_cons_zero, List.set_cons_succ, List.getElem_cons_zero, List.getElem_cons_succ, List.getElem_toArray]
    refine wpAnyH_take (i := 11) (v := .bool B) rfl (by kernel_rfl) (by kernel_rfl) (by kernel_rfl) (fun _ _ _ h => h) (Or.inl ⟨by rfl, fun w hSw => by rfl⟩) hHeld ?_
    simp only [Act.put, List.setIfInBounds_toArray, List.set_cons_zero, List.set_cons_succ, List.getElem_cons_zero, List.getElem_cons_succ, List.getElem_toArray]
    refine wpAnyH_take (i := 12) (v := .int .i64 0) rfl (by kernel_rfl) (by kernel_rfl) (by kernel_rfl) (fun _ _ _ h => h) (Or.inl ⟨by rfl, fun w hSw => by rfl⟩) hHeld ?_
    simp only [Act.put, List.setIfInBounds_toArray, List.set_cons_zero, List.set_cons_succ, List.getElem_cons_zero, List.getElem_cons_succ, List.getElem_toArray]
    refine wpAnyH_done (by kernel_rfl) ?_ _
    go_wp2_with fail
    go_ret2
    exact ⟨by rw [HE.out, HC0.out]; rfl, HB.out.trans (HB3.out.mono HB.out.size)⟩

set_option maxRecDepth 100000 in
set_option maxHeartbeats 4000000 in
theorem iisc_any (L : List MapN) (hl : L.length ≤ 1048576) (X : List Int) (_ : X.length ≤ 1048576) (hw : ∀ x ∈ X, (Lit.int .i64 x).wf = true) (a : Option Addr) (c : Nat) (hc0 : a = none → c = 0) (ax : Option Addr) (cx : Nat) (w : World) (hr : InRowM w a L) (hrx : InRow w ax X) :
    Calls Try.prog 33 #[.slice a L.length c, .slice ax X.length cx] w fun e w' => e = .returned (.tuple #[.bool (icB true L X), .int .i64 (clC L [X])]) ∧ Below w.heap.size w w' := by
  have hba : Below w.heap.size w (w.alloc (.cells #[.slice ax X.length cx] 25)) := (Below.refl _ _).alloc (Nat.le_refl _) _
  have HS := Lib.hid (icl_any a c hc0 L hl [X] (by simp) (one_j (Q := fun Y => ∀ x ∈ Y, (Lit.int .i64 x).wf = true) hw) (some ⟨w.heap.size, 0, none⟩) 1 _ (hr.below hba) (rows_one (c := cx) hrx))
  have HBA := Lib.hid hba
  clear hr hrx hba hc0
  go_enter Try.func33, Try.ntmps33
  go_wp2_with fail
  refine HS.out.mono ?_
  rintro e w1 ⟨hb, ⟨hc, rfl⟩ | ⟨hc, hmon, hle, hcl, a1, c1, a2, c2, rfl, htb, hia⟩⟩
  · have HB := Lib.hid (HBA.out.trans (hb.mono (by simp)))
    have HE := Lib.hid (icB_no (s := true) hc)
    have hne : (clC L [X] != 0) = true := by simpa using hc
    clear hb hc
    generalize hCE : clC L [X] = C at *
    have HCE := Lib.hid hCE
    clear hCE
    go_wp2_with fail
    go_ret2
    exact ⟨by rw [HE.out, HCE.out]; rfl, HB.out⟩
  · have hcls := hcl 0 (by simp)
    rw [show [X].getD 0 [] = X from rfl] at hcls
    have HB := Lib.hid (HBA.out.trans (hb.mono (by simp)))
    have HE := Lib.hid (icB_0 (s := true) hc)
    have HC0 := Lib.hid hc
    have hm1 := mon_pos hmon
    have hmu2 := fun i j hi hj => muK_lt hmon i j hi hj
    obtain ⟨b2, rfl, hb2, hrg⟩ := hia.resolve_left (by simp)
    have hrg0 := hrg 0 (by simp)
    rw [show [X].getD 0 [] = X from rfl, Nat.zero_mul] at hrg0
    have hcl30 : (acl X).length = 30 := acl_len (by rw [hcls.1]; exact hle)
    have hi30 : (Try.prog.info? 63).map (·.size) = some (acl X).length := by rw [hcl30]; exact size_arr
    have hu := Try.underlying63
    have HTB := Lib.hid htb
    clear hb hc hcl htb HS hrg hia
    have HIC := Lib.hid fun aT cT K w ht => isc_any (elsK L).length hle hm1 (muK (fst0 L) (elsK L)) hmu2 X hcls aT cT K w ht
    have HCC : Hid (ac X = (acl X).toArray) := Lib.hid rfl
    rw [HCC.out] at HIC
    clear hcls hmu2 hm1 hmon HCC
    generalize cngB (elsK L).length (muK (fst0 L) (elsK L)) true X = B at *
    generalize muK (fst0 L) (elsK L) = mu at *
    generalize (elsK L).length = m at *
    generalize acl X = cs at *
    have HRG := Lib.hid hrg0
    clear hrg0
    go_wp2_with (with_reducible refine wpList_load_mid rfl 63 (.tmp 22) rfl b2 0 rfl cs _ HRG.out hu rfl hi30 ?_)
    refine (HIC.out _ _ _ _ HTB.out).mono ?_
    rintro e w2 ⟨rfl, hb3⟩
    have HB2 := Lib.hid (HB.out.trans (hb3.mono HB.out.size))
    clear hb3
    go_wp2_with fail
    go_ret2
    exact ⟨by rw [HE.out, HC0.out]; rfl, HB2.out⟩

/-- The truth and the code. -/
noncomputable def icV (s : Bool) (L : List MapN) (X : List Int) : Value := .tuple #[.bool (icB s L X), .int .i64 (clC L [X])]

theorem sisr_v (L : List MapN) (hl : L.length ≤ 1048576) (X : List Int) (hx : X.length ≤ 1048576) (hw : ∀ x ∈ X, (Lit.int .i64 x).wf = true) (a : Option Addr) (c : Nat) (hc : a = none → c = 0) (ax : Option Addr) (cx : Nat) (w : World) (hr : InRowM w a L) (hrx : InRow w ax X) :
    Calls Try.prog 29 #[.slice a L.length c, .slice ax X.length cx] w fun e w' => e = .returned (icV false L X) ∧ Below w.heap.size w w' := sisr_any L hl X hx hw a c hc ax cx w hr hrx

theorem sisc_v (L : List MapN) (hl : L.length ≤ 1048576) (X : List Int) (hx : X.length ≤ 1048576) (hw : ∀ x ∈ X, (Lit.int .i64 x).wf = true) (a : Option Addr) (c : Nat) (hc : a = none → c = 0) (ax : Option Addr) (cx : Nat) (w : World) (hr : InRowM w a L) (hrx : InRow w ax X) :
    Calls Try.prog 32 #[.slice a L.length c, .slice ax X.length cx] w fun e w' => e = .returned (icV true L X) ∧ Below w.heap.size w w' := sisc_any L hl X hx hw a c hc ax cx w hr hrx

theorem iisr_v (L : List MapN) (hl : L.length ≤ 1048576) (X : List Int) (hx : X.length ≤ 1048576) (hw : ∀ x ∈ X, (Lit.int .i64 x).wf = true) (a : Option Addr) (c : Nat) (hc : a = none → c = 0) (ax : Option Addr) (cx : Nat) (w : World) (hr : InRowM w a L) (hrx : InRow w ax X) :
    Calls Try.prog 31 #[.slice a L.length c, .slice ax X.length cx] w fun e w' => e = .returned (icV false L X) ∧ Below w.heap.size w w' := iisr_any L hl X hx hw a c hc ax cx w hr hrx

theorem iisc_v (L : List MapN) (hl : L.length ≤ 1048576) (X : List Int) (hx : X.length ≤ 1048576) (hw : ∀ x ∈ X, (Lit.int .i64 x).wf = true) (a : Option Addr) (c : Nat) (hc : a = none → c = 0) (ax : Option Addr) (cx : Nat) (w : World) (hr : InRowM w a L) (hrx : InRow w ax X) :
    Calls Try.prog 33 #[.slice a L.length c, .slice ax X.length cx] w fun e w' => e = .returned (icV true L X) ∧ Below w.heap.size w w' := iisc_any L hl X hx hw a c hc ax cx w hr hrx

end Go.Proofs.Ytdgdcpcfjdnlcaa
