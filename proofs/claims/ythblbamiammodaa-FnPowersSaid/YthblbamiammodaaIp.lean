/- The contracts of spec.IdempotentPower and impl.IdempotentPower, and of spec.CyclicPoints and impl.CyclicPoints. -/
import Derived.Test.YthblbamiammodaaIpwc
import Derived.Test.YthblbamiammodaaPoints
import Derived.Test.YthblbamiammodaaFixed
namespace Go.Proofs.Ythblbamiammodaa
open Go.RowKit

def ipC (p : Int) (t : Nat → Int) : Int := if isB p t = true then 0 else 1

def ipV (p : Int) (t : Nat → Int) : Value := .tuple #[mv (resP (ipC p t) p) (resT (ipC p t) (pow p t 60)), .int .i64 (ipC p t)]

theorem ipV_1 {p : Int} {t : Nat → Int} (h : isB p t = false) : ipV p t = .tuple #[mv 0 fun _ => 0, .int .i64 1] := by
  unfold ipV ipC; rw [if_neg (by rw [h]; exact Bool.false_ne_true)]; rfl

theorem ipV_0 {p : Int} {t : Nat → Int} (h : isB p t = true) : ipV p t = .tuple #[mv p (pow p t 60), .int .i64 0] := by
  unfold ipV ipC; rw [if_pos h]; rfl

set_option maxHeartbeats 1000000 in
theorem sIp_any (p : Int) (t : Nat → Int) (w : World) :
    Calls Try.prog 12 #[mv p t] w fun e w' => e = .returned (ipV p t) ∧ Below w.heap.size w w' := by
  have HL := fun w => lis_any p t w
  cases hv : isB p t
  · rw [ipV_1 hv]
    rw [hv] at HL
    have HL := Lib.hid HL
    simp only [mv, mcells]
    go_enter Try.func12, Try.ntmps12
    go_wp2_with fail
    (refine (HL.out _).mono ?_; rintro e w1 ⟨rfl, hb⟩; obtain ⟨hc, hf⟩ := bcell hb; have hz := hb.size; have Hb := Lib.hid hb; (try simp at hz hc hf); (try (have hy := Nat.lt_of_succ_le hz)); have hz0 : w.heap.size < w1.heap.size := (by omega); have hz1 : w.heap.size + 1 < w1.heap.size := (by omega); clear hb)
    go_wp2_with fail
    refine bodyPost_ret (v := .tuple #[mv 0 fun _ => 0, .int .i64 1]) (by simp [results, Try.results12, go_sem, *]) rfl ⟨rfl, ?_⟩
    (repeat' (first | (with_reducible exact Below.refl _ _) | (with_reducible refine Below.alloc ?_ ?_ _) | (with_reducible refine Below.setCell ?_ ?_ _) | (with_reducible refine Below.drew ?_) | (with_reducible refine below_drewN ?_ _) | (with_reducible refine Below.trans ?_ (Below.mono (Hid.out (by assumption)) ?_)) | omega | (simp; done) | (simp; omega)))
  · rw [ipV_0 hv]
    rw [hv] at HL
    have HL := Lib.hid HL
    have HP := Lib.hid fun w => spow_any p t hv 60 (by omega) (by omega) w
    simp only [show (60 : Int).toNat = 60 from rfl] at HP
    clear hv
    simp only [mv, mcells] at *
    go_enter Try.func12, Try.ntmps12
    go_wp2_with fail
    (refine (HL.out _).mono ?_; rintro e w1 ⟨rfl, hb⟩; obtain ⟨hc, hf⟩ := bcell hb; have hz := hb.size; have Hb := Lib.hid hb; (try simp at hz hc hf); (try (have hy := Nat.lt_of_succ_le hz)); have hz0 : w.heap.size < w1.heap.size := (by omega); have hz1 : w.heap.size + 1 < w1.heap.size := (by omega); clear hb)
    go_wp2_with fail
    (refine (HP.out _).mono ?_; rintro e w1 ⟨rfl, hb⟩; simp only []; obtain ⟨hc, hf⟩ := bcell hb; have hz := hb.size; have Hb := Lib.hid hb; (try simp at hz hc hf); (try (have hy := Nat.lt_of_succ_le hz)); have hz0 : w.heap.size < w1.heap.size := (by omega); have hz1 : w.heap.size + 1 < w1.heap.size := (by omega); clear hb)
    go_wp2_with fail
    refine bodyPost_ret (v := .tuple #[mv p (pow p t 60), .int .i64 0]) (by simp [results, Try.results12, go_sem, *]) rfl ⟨rfl, ?_⟩
    (repeat' (first | (with_reducible exact Below.refl _ _) | (with_reducible refine Below.alloc ?_ ?_ _) | (with_reducible refine Below.setCell ?_ ?_ _) | (with_reducible refine Below.drew ?_) | (with_reducible refine below_drewN ?_ _) | (with_reducible refine Below.trans ?_ (Below.mono (Hid.out (by assumption)) ?_)) | omega | (simp; done) | (simp; omega)))

set_option maxHeartbeats 1000000 in
theorem iIp_any (p : Int) (t : Nat → Int) (w : World) :
    Calls Try.prog 11 #[mv p t] w fun e w' => e = .returned (ipV p t) ∧ Below w.heap.size w w' := by
  have HL := fun w => iis_any p t w
  cases hv : isB p t
  · rw [ipV_1 hv]
    rw [hv] at HL
    have HL := Lib.hid HL
    simp only [mv, mcells]
    go_enter Try.func11, Try.ntmps11
    go_wp2_with fail
    (refine (HL.out _).mono ?_; rintro e w1 ⟨rfl, hb⟩; obtain ⟨hc, hf⟩ := bcell hb; have hz := hb.size; have Hb := Lib.hid hb; (try simp at hz hc hf); (try (have hy := Nat.lt_of_succ_le hz)); have hz0 : w.heap.size < w1.heap.size := (by omega); have hz1 : w.heap.size + 1 < w1.heap.size := (by omega); clear hb)
    go_wp2_with fail
    refine bodyPost_ret (v := .tuple #[mv 0 fun _ => 0, .int .i64 1]) (by simp [results, Try.results11, go_sem, *]) rfl ⟨rfl, ?_⟩
    (repeat' (first | (with_reducible exact Below.refl _ _) | (with_reducible refine Below.alloc ?_ ?_ _) | (with_reducible refine Below.setCell ?_ ?_ _) | (with_reducible refine Below.drew ?_) | (with_reducible refine below_drewN ?_ _) | (with_reducible refine Below.trans ?_ (Below.mono (Hid.out (by assumption)) ?_)) | omega | (simp; done) | (simp; omega)))
  · rw [ipV_0 hv]
    rw [hv] at HL
    have HL := Lib.hid HL
    have HP := Lib.hid fun w => iip_any p t hv w
    clear hv
    simp only [mv, mcells] at *
    go_enter Try.func11, Try.ntmps11
    go_wp2_with fail
    (refine (HL.out _).mono ?_; rintro e w1 ⟨rfl, hb⟩; obtain ⟨hc, hf⟩ := bcell hb; have hz := hb.size; have Hb := Lib.hid hb; (try simp at hz hc hf); (try (have hy := Nat.lt_of_succ_le hz)); have hz0 : w.heap.size < w1.heap.size := (by omega); have hz1 : w.heap.size + 1 < w1.heap.size := (by omega); clear hb)
    go_wp2_with fail
    (refine (HP.out _).mono ?_; rintro e w1 ⟨rfl, hb⟩; simp only []; obtain ⟨hc, hf⟩ := bcell hb; have hz := hb.size; have Hb := Lib.hid hb; (try simp at hz hc hf); (try (have hy := Nat.lt_of_succ_le hz)); have hz0 : w.heap.size < w1.heap.size := (by omega); have hz1 : w.heap.size + 1 < w1.heap.size := (by omega); clear hb)
    go_wp2_with fail
    refine bodyPost_ret (v := .tuple #[mv p (pow p t 60), .int .i64 0]) (by simp [results, Try.results11, go_sem, *]) rfl ⟨rfl, ?_⟩
    (repeat' (first | (with_reducible exact Below.refl _ _) | (with_reducible refine Below.alloc ?_ ?_ _) | (with_reducible refine Below.setCell ?_ ?_ _) | (with_reducible refine Below.drew ?_) | (with_reducible refine below_drewN ?_ _) | (with_reducible refine Below.trans ?_ (Below.mono (Hid.out (by assumption)) ?_)) | omega | (simp; done) | (simp; omega)))

/-- The cyclic points; none if the code is not 0. -/
def cycL (p : Int) (t : Nat → Int) : List Int := if isB p t = true then asc (imgB p (pow p t 60)) else []

theorem cyc_img {p : Int} {t : Nat → Int} (hf : isB p t = true) : asc (fixB p (pow p t 60)) = asc (imgB p (pow p t 60)) := by
  have hp := isB_pts hf
  refine ascK_congr _ _ 5 fun j hj => ?_
  rw [Bool.eq_iff_iff]
  unfold fixB fixK imgB imgK
  simp only [List.any_eq_true, List.mem_range, beq_iff_eq]
  constructor
  · intro h
    split at h
    · exact ⟨j, by omega, by simpa using h⟩
    · cases h
  · rintro ⟨i, hi, e⟩
    have hip : (i : Int) < p := by omega
    rw [pow_at hf _ _ hip] at e
    have hlt := orb_lt hf 60 i hip
    have ej : orb t 60 i = j := by omega
    have hjp : (j : Int) < p := by omega
    rw [if_pos (by omega)]
    have h60 := orb_60 hf i hip
    rw [show (120 : Nat) = 60 + 60 from rfl, orb_add, ej] at h60
    rw [pow_at hf _ _ hjp, h60]
    simp

set_option maxHeartbeats 1000000 in
theorem sCyc_any (p : Int) (t : Nat → Int) (w : World) :
    Calls Try.prog 14 #[mv p t] w (RetRow w.heap.size (cycL p t) (ipC p t) w) := by
  have HL := fun w => lis_any p t w
  cases hv : isB p t
  · have e1 : cycL p t = [] := by unfold cycL; rw [if_neg (by rw [hv]; exact Bool.false_ne_true)]
    have e2 : ipC p t = 1 := by unfold ipC; rw [if_neg (by rw [hv]; exact Bool.false_ne_true)]
    rw [e1, e2]
    rw [hv] at HL
    have HL := Lib.hid HL
    clear e1 e2
    simp only [mv, mcells]
    go_enter Try.func14, Try.ntmps14
    go_wp2_with fail
    (refine (HL.out _).mono ?_; rintro e w1 ⟨rfl, hb⟩; obtain ⟨hc, hf⟩ := bcell hb; have hz := hb.size; have Hb := Lib.hid hb; (try simp at hz hc hf); (try (have hy := Nat.lt_of_succ_le hz)); have hz0 : w.heap.size < w1.heap.size := (by omega); clear hb)
    go_wp2_with fail
    go_ret2
    refine ⟨none, 0, rfl, ⟨by simp, Or.inl rfl⟩, ?_⟩
    (repeat' (first | (with_reducible exact Below.refl _ _) | (with_reducible refine Below.alloc ?_ ?_ _) | (with_reducible refine Below.setCell ?_ ?_ _) | (with_reducible refine Below.drew ?_) | (with_reducible refine below_drewN ?_ _) | (with_reducible refine Below.trans ?_ (Below.mono (Hid.out (by assumption)) ?_)) | omega | (simp; done) | (simp; omega)))
  · have e1 : cycL p t = asc (imgB p (pow p t 60)) := by unfold cycL; rw [if_pos hv]
    have e2 : ipC p t = 0 := by unfold ipC; rw [if_pos hv]
    rw [e1, e2]
    rw [hv] at HL
    have HL := Lib.hid HL
    have HP := Lib.hid fun w => spow_any p t hv 60 (by omega) (by omega) w
    simp only [show (60 : Int).toNat = 60 from rfl] at HP
    have HG := Lib.hid fun w => simg_any p (pow p t 60) (pow_ok hv 60) w
    have HQ := Lib.hid fun w => spoints_any (imgB p (pow p t 60)) w
    have HLen := Lib.hid (asc_len (imgB p (pow p t 60)))
    clear hv e1 e2
    generalize asc (imgB p (pow p t 60)) = R at *
    generalize mask (imgB p (pow p t 60)) = M at *
    simp only [mv, mcells] at *
    go_enter Try.func14, Try.ntmps14
    go_wp2_with fail
    (refine (HL.out _).mono ?_; rintro e w1 ⟨rfl, hb⟩; obtain ⟨hc, hf⟩ := bcell hb; have hz := hb.size; have Hb := Lib.hid hb; (try simp at hz hc hf); (try (have hy := Nat.lt_of_succ_le hz)); have hz0 : w.heap.size < w1.heap.size := (by omega); clear hb)
    have Hb1 := Hb
    go_wp2_with fail
    (refine (HP.out _).mono ?_; rintro e w1 ⟨rfl, hb⟩; simp only []; obtain ⟨hc, hf⟩ := bcell hb; have hz := hb.size; have Hb := Lib.hid hb; (try simp at hz hc hf); (try (have hy := Nat.lt_of_succ_le hz)); have hz0 : w.heap.size < w1.heap.size := (by omega); clear hb)
    have Hb2 := Hb
    go_wp2_with fail
    (refine (HG.out _).mono ?_; rintro e w1 ⟨rfl, hb⟩; obtain ⟨hc, hf⟩ := bcell hb; have hz := hb.size; have Hb := Lib.hid hb; (try simp at hz hc hf); (try (have hy := Nat.lt_of_succ_le hz)); have hz0 : w.heap.size < w1.heap.size := (by omega); clear hb)
    have Hb3 := Hb
    go_wp2_with fail
    refine (HQ.out _).mono ?_
    rintro e w2 ⟨v, rfl, hown, hbel⟩
    obtain ⟨ax, cx, rfl, hrd⟩ := own_rd hown HLen.out
    have HB := Lib.hid hbel
    have HO := Lib.hid hrd
    clear hbel hown hrd
    go_wp2_with fail
    go_ret2
    refine ⟨_, _, rfl, HO.out.mono (by omega), ?_⟩
    (repeat' (first | (with_reducible exact Below.refl _ _) | (with_reducible refine Below.alloc ?_ ?_ _) | (with_reducible refine Below.setCell ?_ ?_ _) | (with_reducible refine Below.drew ?_) | (with_reducible refine below_drewN ?_ _) | (with_reducible refine Below.trans ?_ (Below.mono (Hid.out (by assumption)) ?_)) | omega | (simp; done) | (simp; omega)))

set_option maxHeartbeats 1000000 in
theorem icy_any (p : Int) (t : Nat → Int) (hv : isB p t = true) (w : World) :
    Calls Try.prog 46 #[mv p t] w (RetOwn w.heap.size (asc (imgB p (pow p t 60))) w) := by
  rw [← cyc_img hv]
  have HP := Lib.hid fun w => iip_any p t hv w
  have HQ := Lib.hid fun w => ifix_any p (pow p t 60) (pow_ok hv 60) w
  clear hv
  generalize asc (fixB p (pow p t 60)) = R at *
  simp only [mv, mcells] at *
  go_enter Try.func46, Try.ntmps46
  go_wp2_with fail
  (refine (HP.out _).mono ?_; rintro e w1 ⟨rfl, hb⟩; simp only []; obtain ⟨hc, hf⟩ := bcell hb; have hz := hb.size; have Hb := Lib.hid hb; (try simp at hz hc hf); (try (have hy := Nat.lt_of_succ_le hz)); have hz0 : w.heap.size < w1.heap.size := (by omega); clear hb)
  have Hb2 := Hb
  go_wp2_with fail
  refine (HQ.out _).mono ?_
  rintro e w2 ⟨v, rfl, hown, hbel⟩
  have HB := Lib.hid hbel
  have HO := Lib.hid hown
  clear hbel hown
  go_wp2_with fail
  go_ret
  refine ⟨_, rfl, Joins.ownsRow_le HO.out (by omega), ?_⟩
  (repeat' (first | (with_reducible exact Below.refl _ _) | (with_reducible refine Below.alloc ?_ ?_ _) | (with_reducible refine Below.setCell ?_ ?_ _) | (with_reducible refine Below.drew ?_) | (with_reducible refine below_drewN ?_ _) | (with_reducible refine Below.trans ?_ (Below.mono (Hid.out (by assumption)) ?_)) | omega | (simp; done) | (simp; omega)))

set_option maxHeartbeats 1000000 in
theorem iCyc_any (p : Int) (t : Nat → Int) (w : World) :
    Calls Try.prog 13 #[mv p t] w (RetRow w.heap.size (cycL p t) (ipC p t) w) := by
  have HL := fun w => iis_any p t w
  cases hv : isB p t
  · have e1 : cycL p t = [] := by unfold cycL; rw [if_neg (by rw [hv]; exact Bool.false_ne_true)]
    have e2 : ipC p t = 1 := by unfold ipC; rw [if_neg (by rw [hv]; exact Bool.false_ne_true)]
    rw [e1, e2]
    rw [hv] at HL
    have HL := Lib.hid HL
    clear e1 e2
    simp only [mv, mcells]
    go_enter Try.func13, Try.ntmps13
    go_wp2_with fail
    (refine (HL.out _).mono ?_; rintro e w1 ⟨rfl, hb⟩; obtain ⟨hc, hf⟩ := bcell hb; have hz := hb.size; have Hb := Lib.hid hb; (try simp at hz hc hf); (try (have hy := Nat.lt_of_succ_le hz)); have hz0 : w.heap.size < w1.heap.size := (by omega); clear hb)
    go_wp2_with fail
    go_ret2
    refine ⟨none, 0, rfl, ⟨by simp, Or.inl rfl⟩, ?_⟩
    (repeat' (first | (with_reducible exact Below.refl _ _) | (with_reducible refine Below.alloc ?_ ?_ _) | (with_reducible refine Below.setCell ?_ ?_ _) | (with_reducible refine Below.drew ?_) | (with_reducible refine below_drewN ?_ _) | (with_reducible refine Below.trans ?_ (Below.mono (Hid.out (by assumption)) ?_)) | omega | (simp; done) | (simp; omega)))
  · have e1 : cycL p t = asc (imgB p (pow p t 60)) := by unfold cycL; rw [if_pos hv]
    have e2 : ipC p t = 0 := by unfold ipC; rw [if_pos hv]
    rw [e1, e2]
    rw [hv] at HL
    have HL := Lib.hid HL
    have HQ := Lib.hid fun w => icy_any p t hv w
    have HLen := Lib.hid (asc_len (imgB p (pow p t 60)))
    clear hv e1 e2
    generalize asc (imgB p (pow p t 60)) = R at *
    simp only [mv, mcells] at *
    go_enter Try.func13, Try.ntmps13
    go_wp2_with fail
    (refine (HL.out _).mono ?_; rintro e w1 ⟨rfl, hb⟩; obtain ⟨hc, hf⟩ := bcell hb; have hz := hb.size; have Hb := Lib.hid hb; (try simp at hz hc hf); (try (have hy := Nat.lt_of_succ_le hz)); have hz0 : w.heap.size < w1.heap.size := (by omega); clear hb)
    have Hb1 := Hb
    go_wp2_with fail
    refine (HQ.out _).mono ?_
    rintro e w2 ⟨v, rfl, hown, hbel⟩
    obtain ⟨ax, cx, rfl, hrd⟩ := own_rd hown HLen.out
    have HB := Lib.hid hbel
    have HO := Lib.hid hrd
    clear hbel hown hrd
    go_wp2_with fail
    go_ret2
    refine ⟨_, _, rfl, HO.out.mono (by omega), ?_⟩
    (repeat' (first | (with_reducible exact Below.refl _ _) | (with_reducible refine Below.alloc ?_ ?_ _) | (with_reducible refine Below.setCell ?_ ?_ _) | (with_reducible refine Below.drew ?_) | (with_reducible refine below_drewN ?_ _) | (with_reducible refine Below.trans ?_ (Below.mono (Hid.out (by assumption)) ?_)) | omega | (simp; done) | (simp; omega)))

end Go.Proofs.Ythblbamiammodaa
