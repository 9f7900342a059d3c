/- Permutations and inverses: the contracts of impl.isPermutation, spec.l01Inverse, spec.InverseOf and impl.InverseOf. -/
import Derived.Test.YthblbamiammodaaRank
import Derived.Test.YthblbamiammodaaImage
import Derived.Test.YthblbamiammodaaBase
import Derived.Deep.RegionHeld3
namespace Go.Proofs.Ythblbamiammodaa
open Go.RowKit

def permB (p : Int) (t : Nat → Int) : Bool := ((asc (imgB p t)).length : Int) == p

/-- The inverse as the loops make it: the last point that is led to j. -/
def invK (t : Nat → Int) : Nat → (Nat → Int)
  | 0 => fun _ => 0
  | k + 1 => upd (invK t k) (t k).toNat (k : Int)

def invm (p : Int) (t : Nat → Int) : Nat → Int := invK t p.toNat

set_option maxRecDepth 100000 in
theorem iperm_any (p : Int) (t : Nat → Int) (hf : isB p t = true) (w : World) :
    Calls Try.prog 56 #[mv p t] w fun e w' => e = .returned (.bool (permB p t)) ∧ Below w.heap.size w w' := by
  have HR := Lib.hid fun w => irank_any p t hf w
  have rf0 : ∀ x : World, x.heap[w.heap.size]? = some (.cells (mcells p t) 26 (0, 0)) → x.cell? ⟨w.heap.size, 0, none⟩ = some (.int .i64 p) := fun x h => (blk6 h).1
  have rf1 : ∀ x : World, x.heap[w.heap.size]? = some (.cells (mcells p t) 26 (0, 0)) → x.cell? ⟨w.heap.size, 1, none⟩ = some (.int .i64 (t 0)) := fun x h => (blk6 h).2.1
  have rf2 : ∀ x : World, x.heap[w.heap.size]? = some (.cells (mcells p t) 26 (0, 0)) → x.cell? ⟨w.heap.size, 2, none⟩ = some (.int .i64 (t 1)) := fun x h => (blk6 h).2.2.1
  have rf3 : ∀ x : World, x.heap[w.heap.size]? = some (.cells (mcells p t) 26 (0, 0)) → x.cell? ⟨w.heap.size, 3, none⟩ = some (.int .i64 (t 2)) := fun x h => (blk6 h).2.2.2.1
  have rf4 : ∀ x : World, x.heap[w.heap.size]? = some (.cells (mcells p t) 26 (0, 0)) → x.cell? ⟨w.heap.size, 4, none⟩ = some (.int .i64 (t 3)) := fun x h => (blk6 h).2.2.2.2.1
  have rf5 : ∀ x : World, x.heap[w.heap.size]? = some (.cells (mcells p t) 26 (0, 0)) → x.cell? ⟨w.heap.size, 5, none⟩ = some (.int .i64 (t 4)) := fun x h => (blk6 h).2.2.2.2.2
  unfold permB
  generalize (asc (imgB p t)).length = R at *
  simp only [mv, mcells] at *
  go_enter Try.func56, Try.ntmps56
  go_wp2_with fail
  go_region_held3 (fun w' => w'.heap[w.heap.size]? = some (.cells (mcells p t) 26 (0, 0))) (first | ((try dsimp only); (try go_split_ands); (repeat' apply And.intro) <;> ((repeat' (first | omega | (rw [hdrew]) | (with_reducible assumption) | (with_reducible exact Hid.out (by assumption)) | (with_reducible rfl) | ((with_reducible refine halloc_at _ _ _ ?_) <;> (first | (with_reducible rfl) | omega | (simp; done))) | (with_reducible refine chain6 ?_) | (with_reducible refine Eq.trans (hset_ne _ _ _ _ ?_) ?_) | (with_reducible refine Eq.trans (halloc_lt _ _ _ ?_) ?_) | (with_reducible refine Eq.trans (Below.block (Hid.out (by assumption)) _ ?_) ?_) | (simp; done) | (simp; omega))); done))) (first | (go_at_call 51; (with_reducible refine (HR.out _).mono ?_); rintro e w1 ⟨rfl, hb⟩; obtain ⟨hc, hf⟩ := bcell hb; have hz := hb.size; have Hb := Lib.hid hb; (try simp at hz hc hf); (try (have hy := Nat.lt_of_succ_le hz)); have hz0 : w.heap.size < w1.heap.size := (by omega); clear hb))
  all_goals go_wp2_with fail
  all_goals go_ret
  all_goals
    refine ⟨rfl, ?_⟩
    (repeat' (first | (with_reducible exact Below.refl _ _) | (with_reducible refine Below.alloc ?_ ?_ _) | (with_reducible refine Below.setCell ?_ ?_ _) | (with_reducible refine Below.drew ?_) | (with_reducible refine below_drewN ?_ _) | (with_reducible refine Below.trans ?_ (Below.mono (Hid.out (by assumption)) ?_)) | omega | (simp; done) | (simp; omega)))

set_option maxHeartbeats 1000000 in
theorem sinv_any (p : Int) (f : Nat → Int) (hf : isB p f = true) (w : World) :
    Calls Try.prog 58 #[mv p f] w fun e w' => e = .returned (mv p (invm p f)) ∧ Below w.heap.size w w' := by
  have hF := Lib.hid hf
  obtain ⟨h1, h5⟩ := isB_pts hf
  clear hf
  simp only [mv, mcells]
  go_enter Try.func58, Try.ntmps58
  go_wp2
  go_loopw [4] (fun i wr => ∃ (k : Nat), (k : Int) ≤ p ∧ i = .int .i64 k ∧ Below w.heap.size w wr ∧ w.heap.size + 1 + 1 < wr.heap.size ∧
      wr.heap[w.heap.size]? = some (.cells (mcells p f) 26 (0, 0)) ∧
      wr.heap[w.heap.size + 1]? = some (.cells (mcells 0 fun _ => 0) 26 (0, 0)) ∧ wr.heap[w.heap.size + 1 + 1]? = some (.cells (mcells p (invK f k)) 26 (0, 0))) (fun i _ => (p - intOf i).toNat)
  case atStart =>
    refine ⟨0, by omega, rfl, ?_, by simp, ?_, ?_, ?_⟩
    · (repeat' (first | (with_reducible exact Below.refl _ _) | (with_reducible refine Below.alloc ?_ ?_ _) | (with_reducible refine Below.setCell ?_ ?_ _) | (with_reducible refine Below.drew ?_) | (with_reducible refine below_drewN ?_ _) | (with_reducible refine Below.trans ?_ (Below.mono (Hid.out (by assumption)) ?_)) | omega | (simp; done) | (simp; omega)))
    · ((try rw [hdrew]); simp only [halloc, Array.getElem?_push, Array.size_push]; (repeat (first | rw [if_pos (by omega)] | rw [if_neg (by omega)])); try rfl)
    · ((try rw [hdrew]); simp only [halloc, Array.getElem?_push, Array.size_push]; (repeat (first | rw [if_pos (by omega)] | rw [if_neg (by omega)])); try rfl)
    · ((try rw [hdrew]); simp only [halloc, Array.getElem?_push, Array.size_push]; (repeat (first | rw [if_pos (by omega)] | rw [if_neg (by omega)])); try rfl)
  case round =>
    obtain ⟨k, hk, rfl, hb, hsz, b0, b2, b3⟩ := hrel
    have hp := (blk6 b0).1
    have Hb := Lib.hid hb
    have B0 := Lib.hid b0
    have B2 := Lib.hid b2
    have B3 := Lib.hid b3
    clear hb b0 b2 b3
    by_cases hkp : (k : Int) < p
    · obtain ⟨f0, f1, k5⟩ := ok_at hF.out k hkp
      have k5' : (k : Int) < 5 := by omega
      have f5 : f k < 5 := by omega
      have hfk := blk_at B0.out k k5
      have hok := blk_at B3.out (f k).toNat (by omega)
      have hfr := blk_free B3.out (1 + (f k).toNat)
      go_wp2
      go_roundw
      case rel =>
        refine ⟨k + 1, by omega, by go_num, Hb.out.setCell (by simp; omega) _, by simpa using hsz, ?_, ?_, ?_⟩
        · rw [hset_ne _ _ _ _ (by simp; omega)]; exact B0.out
        · rw [hset_ne _ _ _ _ (by simp)]; exact B2.out
        · exact blk_set B3.out _ (by omega) _
      case measure => simp [intOf]; omega
    · obtain ⟨e0, e1, e2, e3, e4, e5⟩ := blk6 B3.out
      obtain ⟨r0, r1, r2, r3, r4, r5⟩ := blk6 B2.out
      have hfr := blk_free B2.out
      have hK : Hid (invK f k = invm p f) := by unfold invm; rw [show p.toNat = k by omega]; rfl
      go_wp2
      refine bodyPost_ret (v := mv p (invK f k)) (by simp [results, Try.results58, go_sem, r0, r1, r2, r3, r4, r5]) rfl ⟨by rw [hK.out], ?_⟩
      (repeat' (first | (with_reducible exact Below.refl _ _) | (with_reducible refine Below.alloc ?_ ?_ _) | (with_reducible refine Below.setCell ?_ ?_ _) | (with_reducible refine Below.drew ?_) | (with_reducible refine below_drewN ?_ _) | (with_reducible refine Below.trans ?_ (Below.mono (Hid.out (by assumption)) ?_)) | omega | (simp; done) | (simp; omega)))

def invC (p : Int) (t : Nat → Int) : Int := if isB p t = true then (if permB p t = true then 0 else 5) else 1

def invV (p : Int) (t : Nat → Int) : Value := .tuple #[mv (resP (invC p t) p) (resT (invC p t) (invm p t)), .int .i64 (invC p t)]

theorem invV_1 {p : Int} {t : Nat → Int} (h : isB p t = false) : invV p t = .tuple #[mv 0 fun _ => 0, .int .i64 1] := by
  have e : invC p t = 1 := by unfold invC; rw [if_neg (by rw [h]; exact Bool.false_ne_true)]
  unfold invV; rw [e]; rfl

theorem invV_5 {p : Int} {t : Nat → Int} (h : isB p t = true) (h' : permB p t = false) : invV p t = .tuple #[mv 0 fun _ => 0, .int .i64 5] := by
  have e : invC p t = 5 := by unfold invC; rw [if_pos h, if_neg (by rw [h']; exact Bool.false_ne_true)]
  unfold invV; rw [e]; rfl

theorem invV_0 {p : Int} {t : Nat → Int} (h : isB p t = true) (h' : permB p t = true) : invV p t = .tuple #[mv p (invm p t), .int .i64 0] := by
  have e : invC p t = 0 := by unfold invC; rw [if_pos h, if_pos h']
  unfold invV; rw [e]; rfl

set_option maxRecDepth 100000 in
set_option maxHeartbeats 1000000 in
theorem sInv_any (p : Int) (t : Nat → Int) (w : World) :
    Calls Try.prog 21 #[mv p t] w fun e w' => e = .returned (invV p t) ∧ Below w.heap.size w w' := by
  have rf0 : ∀ x : World, x.heap[w.heap.size]? = some (.cells (mcells p t) 26 (0, 0)) → x.cell? ⟨w.heap.size, 0, none⟩ = some (.int .i64 p) := fun x h => (blk6 h).1
  have rf1 : ∀ x : World, x.heap[w.heap.size]? = some (.cells (mcells p t) 26 (0, 0)) → x.cell? ⟨w.heap.size, 1, none⟩ = some (.int .i64 (t 0)) := fun x h => (blk6 h).2.1
  have rf2 : ∀ x : World, x.heap[w.heap.size]? = some (.cells (mcells p t) 26 (0, 0)) → x.cell? ⟨w.heap.size, 2, none⟩ = some (.int .i64 (t 1)) := fun x h => (blk6 h).2.2.1
  have rf3 : ∀ x : World, x.heap[w.heap.size]? = some (.cells (mcells p t) 26 (0, 0)) → x.cell? ⟨w.heap.size, 3, none⟩ = some (.int .i64 (t 2)) := fun x h => (blk6 h).2.2.2.1
  have rf4 : ∀ x : World, x.heap[w.heap.size]? = some (.cells (mcells p t) 26 (0, 0)) → x.cell? ⟨w.heap.size, 4, none⟩ = some (.int .i64 (t 3)) := fun x h => (blk6 h).2.2.2.2.1
  have rf5 : ∀ x : World, x.heap[w.heap.size]? = some (.cells (mcells p t) 26 (0, 0)) → x.cell? ⟨w.heap.size, 5, none⟩ = some (.int .i64 (t 4)) := fun x h => (blk6 h).2.2.2.2.2
  cases hv : isB p t
  · rw [invV_1 hv]
    clear rf0 rf1 rf2 rf3 rf4 rf5
    simp only [mv, mcells]
    go_enter Try.func21, Try.ntmps21
    go_wp2_with fail
    (refine (lis_any p t _).mono ?_; rintro e w1 ⟨rfl, hb⟩; obtain ⟨hc, hf⟩ := bcell hb; have hz := hb.size; have Hb := Lib.hid hb; (try simp at hz hc hf); (try (have hy := Nat.lt_of_succ_le hz)); have hz0 : w.heap.size < w1.heap.size := (by omega); have hz1 : w.heap.size + 1 < w1.heap.size := (by omega); clear hb)
    go_wp2_with fail
    refine bodyPost_ret (v := .tuple #[mv 0 fun _ => 0, .int .i64 1]) (by simp [results, Try.results21, go_sem, *]) rfl ⟨rfl, ?_⟩
    (repeat' (first | (with_reducible exact Below.refl _ _) | (with_reducible refine Below.alloc ?_ ?_ _) | (with_reducible refine Below.setCell ?_ ?_ _) | (with_reducible refine Below.drew ?_) | (with_reducible refine below_drewN ?_ _) | (with_reducible refine Below.trans ?_ (Below.mono (Hid.out (by assumption)) ?_)) | omega | (simp; done) | (simp; omega)))
  · have HR := Lib.hid fun w => srank_any p t hv w
    have HI := Lib.hid fun w => sinv_any p t hv w
    have HL := Lib.hid fun w => lis_any p t w
    rw [hv] at HL
    have HV := Lib.hid hv
    clear hv
    cases hq : permB p t
    · rw [invV_5 HV.out hq]
      have hq' : (((asc (imgB p t)).length : Int) != p) = true := by unfold permB at hq; simp [bne, hq]
      clear hq HV
      generalize (asc (imgB p t)).length = R at *
      simp only [mv, mcells] at *
      go_enter Try.func21, Try.ntmps21
      go_wp2_with fail
      (refine (HL.out _).mono ?_; rintro e w1 ⟨rfl, hb⟩; obtain ⟨hc, hf⟩ := bcell hb; have hz := hb.size; have Hb := Lib.hid hb; (try simp at hz hc hf); (try (have hy := Nat.lt_of_succ_le hz)); have hz0 : w.heap.size < w1.heap.size := (by omega); have hz1 : w.heap.size + 1 < w1.heap.size := (by omega); clear hb)
      go_wp2_with fail
      go_region_held3 (fun w' => w'.heap[w.heap.size]? = some (.cells (mcells p t) 26 (0, 0))) (first | ((try dsimp only); (try go_split_ands); (repeat' apply And.intro) <;> ((repeat' (first | omega | (rw [hdrew]) | (with_reducible assumption) | (with_reducible exact Hid.out (by assumption)) | (with_reducible rfl) | ((with_reducible refine halloc_at _ _ _ ?_) <;> (first | (with_reducible rfl) | omega | (simp; done))) | (with_reducible refine chain6 ?_) | (with_reducible refine Eq.trans (hset_ne _ _ _ _ ?_) ?_) | (with_reducible refine Eq.trans (halloc_lt _ _ _ ?_) ?_) | (with_reducible refine Eq.trans (Below.block (Hid.out (by assumption)) _ ?_) ?_) | (simp; done) | (simp; omega))); done))) (first | (go_at_call 57; (with_reducible refine (HR.out _).mono ?_); rintro e w1 ⟨rfl, hb⟩; obtain ⟨hc, hf⟩ := bcell hb; have hz := hb.size; have Hb := Lib.hid hb; (try simp at hz hc hf); (try (have hy := Nat.lt_of_succ_le hz)); have hz0 : w.heap.size < w1.heap.size := (by omega); have hz1 : w.heap.size + 1 < w1.heap.size := (by omega); clear hb))
      all_goals go_wp2_with fail
      all_goals
        refine bodyPost_ret (v := .tuple #[mv 0 fun _ => 0, .int .i64 5]) (by simp [results, Try.results21, go_sem, *]) rfl ⟨rfl, ?_⟩
        (repeat' (first | (with_reducible exact Below.refl _ _) | (with_reducible refine Below.alloc ?_ ?_ _) | (with_reducible refine Below.setCell ?_ ?_ _) | (with_reducible refine Below.drew ?_) | (with_reducible refine below_drewN ?_ _) | (with_reducible refine Below.trans ?_ (Below.mono (Hid.out (by assumption)) ?_)) | omega | (simp; done) | (simp; omega)))
    · rw [invV_0 HV.out hq]
      have hq' : (((asc (imgB p t)).length : Int) != p) = false := by unfold permB at hq; simp [bne, hq]
      clear hq HV
      generalize (asc (imgB p t)).length = R at *
      generalize hG : invm p t = G at *
      clear hG
      simp only [mv, mcells] at *
      go_enter Try.func21, Try.ntmps21
      go_wp2_with fail
      (refine (HL.out _).mono ?_; rintro e w1 ⟨rfl, hb⟩; obtain ⟨hc, hf⟩ := bcell hb; have hz := hb.size; have Hb := Lib.hid hb; (try simp at hz hc hf); (try (have hy := Nat.lt_of_succ_le hz)); have hz0 : w.heap.size < w1.heap.size := (by omega); have hz1 : w.heap.size + 1 < w1.heap.size := (by omega); clear hb)
      go_wp2_with fail
      go_region_held3 (fun w' => w'.heap[w.heap.size]? = some (.cells (mcells p t) 26 (0, 0))) (first | ((try dsimp only); (try go_split_ands); (repeat' apply And.intro) <;> ((repeat' (first | omega | (rw [hdrew]) | (with_reducible assumption) | (with_reducible exact Hid.out (by assumption)) | (with_reducible rfl) | ((with_reducible refine halloc_at _ _ _ ?_) <;> (first | (with_reducible rfl) | omega | (simp; done))) | (with_reducible refine chain6 ?_) | (with_reducible refine Eq.trans (hset_ne _ _ _ _ ?_) ?_) | (with_reducible refine Eq.trans (halloc_lt _ _ _ ?_) ?_) | (with_reducible refine Eq.trans (Below.block (Hid.out (by assumption)) _ ?_) ?_) | (simp; done) | (simp; omega))); done))) (first | (go_at_call 57; (with_reducible refine (HR.out _).mono ?_); rintro e w1 ⟨rfl, hb⟩; obtain ⟨hc, hf⟩ := bcell hb; have hz := hb.size; have Hb := Lib.hid hb; (try simp at hz hc hf); (try (have hy := Nat.lt_of_succ_le hz)); have hz0 : w.heap.size < w1.heap.size := (by omega); have hz1 : w.heap.size + 1 < w1.heap.size := (by omega); clear hb))
      all_goals go_wp2_with fail
      all_goals (refine (HI.out _).mono ?_; rintro e w1 ⟨rfl, hb⟩; obtain ⟨hc, hf⟩ := bcell hb; have hz := hb.size; have Hb := Lib.hid hb; (try simp at hz hc hf); (try (have hy := Nat.lt_of_succ_le hz)); have hz0 : w.heap.size < w1.heap.size := (by omega); have hz1 : w.heap.size + 1 < w1.heap.size := (by omega); clear hb)
      all_goals go_wp2_with fail
      all_goals
        refine bodyPost_ret (v := .tuple #[mv p G, .int .i64 0]) (by simp [results, Try.results21, go_sem, *]) rfl ⟨rfl, ?_⟩
        (repeat' (first | (with_reducible exact Below.refl _ _) | (with_reducible refine Below.alloc ?_ ?_ _) | (with_reducible refine Below.setCell ?_ ?_ _) | (with_reducible refine Below.drew ?_) | (with_reducible refine below_drewN ?_ _) | (with_reducible refine Below.trans ?_ (Below.mono (Hid.out (by assumption)) ?_)) | omega | (simp; done) | (simp; omega)))

set_option maxHeartbeats 2000000 in
theorem iInv_any (p : Int) (t : Nat → Int) (w : World) :
    Calls Try.prog 20 #[mv p t] w fun e w' => e = .returned (invV p t) ∧ Below w.heap.size w w' := by
  cases hv : isB p t
  · rw [invV_1 hv]
    simp only [mv, mcells]
    go_enter Try.func20, Try.ntmps20
    go_wp2_with fail
    (refine (iis_any p t _).mono ?_; rintro e w1 ⟨rfl, hb⟩; obtain ⟨hc, hf⟩ := bcell hb; have hz := hb.size; have Hb := Lib.hid hb; (try simp at hz hc hf); (try (have hy := Nat.lt_of_succ_le hz)); have hz0 : w.heap.size < w1.heap.size := (by omega); have hz1 : w.heap.size + 1 < w1.heap.size := (by omega); clear hb)
    go_wp2_with fail
    refine bodyPost_ret (v := .tuple #[mv 0 fun _ => 0, .int .i64 1]) (by simp [results, Try.results20, go_sem, *]) rfl ⟨rfl, ?_⟩
    (repeat' (first | (with_reducible exact Below.refl _ _) | (with_reducible refine Below.alloc ?_ ?_ _) | (with_reducible refine Below.setCell ?_ ?_ _) | (with_reducible refine Below.drew ?_) | (with_reducible refine below_drewN ?_ _) | (with_reducible refine Below.trans ?_ (Below.mono (Hid.out (by assumption)) ?_)) | omega | (simp; done) | (simp; omega)))
  · have hF := Lib.hid hv
    have hL := fun w => iis_any p t w
    rw [hv] at hL
    have HL := Lib.hid hL
    clear hL
    obtain ⟨h1, h5⟩ := isB_pts hv
    have hP := fun w => iperm_any p t hv w
    cases hq : permB p t
    · rw [invV_5 hv hq]
      rw [hq] at hP
      have HP := Lib.hid hP
      clear hP hq hv
      simp only [mv, mcells]
      go_enter Try.func20, Try.ntmps20
      go_wp2_with fail
      (refine (HL.out _).mono ?_; rintro e w1 ⟨rfl, hb⟩; obtain ⟨hc, hf⟩ := bcell hb; have hz := hb.size; have Hb := Lib.hid hb; (try simp at hz hc hf); (try (have hy := Nat.lt_of_succ_le hz)); have hz0 : w.heap.size < w1.heap.size := (by omega); have hz1 : w.heap.size + 1 < w1.heap.size := (by omega); clear hb)
      go_wp2_with fail
      (refine (HP.out _).mono ?_; rintro e w1 ⟨rfl, hb⟩; obtain ⟨hc, hf⟩ := bcell hb; have hz := hb.size; have Hb := Lib.hid hb; (try simp at hz hc hf); (try (have hy := Nat.lt_of_succ_le hz)); have hz0 : w.heap.size < w1.heap.size := (by omega); have hz1 : w.heap.size + 1 < w1.heap.size := (by omega); clear hb)
      go_wp2_with fail
      refine bodyPost_ret (v := .tuple #[mv 0 fun _ => 0, .int .i64 5]) (by simp [results, Try.results20, go_sem, *]) rfl ⟨rfl, ?_⟩
      (repeat' (first | (with_reducible exact Below.refl _ _) | (with_reducible refine Below.alloc ?_ ?_ _) | (with_reducible refine Below.setCell ?_ ?_ _) | (with_reducible refine Below.drew ?_) | (with_reducible refine below_drewN ?_ _) | (with_reducible refine Below.trans ?_ (Below.mono (Hid.out (by assumption)) ?_)) | omega | (simp; done) | (simp; omega)))
    · rw [invV_0 hv hq]
      rw [hq] at hP
      have HP := Lib.hid hP
      clear hP hq hv
      simp only [mv, mcells]
      go_enter Try.func20, Try.ntmps20
      go_wp2_with fail
      (refine (HL.out _).mono ?_; rintro e w1 ⟨rfl, hb⟩; obtain ⟨hc, hf⟩ := bcell hb; have hz := hb.size; have Hb := Lib.hid hb; (try simp at hz hc hf); (try (have hy := Nat.lt_of_succ_le hz)); have hz0 : w.heap.size < w1.heap.size := (by omega); have hz1 : w.heap.size + 1 < w1.heap.size := (by omega); clear hb)
      go_wp2_with fail
      (refine (HP.out _).mono ?_; rintro e w1 ⟨rfl, hb⟩; obtain ⟨hc, hf⟩ := bcell hb; have hz := hb.size; have Hb := Lib.hid hb; (try simp at hz hc hf); (try (have hy := Nat.lt_of_succ_le hz)); have hz0 : w.heap.size < w1.heap.size := (by omega); have hz1 : w.heap.size + 1 < w1.heap.size := (by omega); clear hb)
      obtain ⟨wo, hwo⟩ : ∃ wo, wo = w1 := ⟨_, rfl⟩
      subst hwo
      go_wp2_with fail
      go_loopw [5, 19] (fun _ i wr => ∃ (k : Nat), (k : Int) ≤ p ∧ i = .int .i64 k ∧ Below w.heap.size w wr ∧ wo.heap.size < wr.heap.size ∧
          wr.heap[w.heap.size]? = some (.cells (mcells p t) 26 (0, 0)) ∧
          wr.heap[w.heap.size + 1]? = some (.cells (mcells 0 fun _ => 0) 26 (0, 0)) ∧ wr.heap[wo.heap.size]? = some (.cells (mcells p (invK t k)) 26 (0, 0))) (fun _ i _ => (p - intOf i).toNat)
      case atStart =>
        refine ⟨0, by omega, rfl, ?_, by simp, ?_, ?_, ?_⟩
        · (repeat' (first | (with_reducible exact Below.refl _ _) | (with_reducible refine Below.alloc ?_ ?_ _) | (with_reducible refine Below.setCell ?_ ?_ _) | (with_reducible refine Below.drew ?_) | (with_reducible refine below_drewN ?_ _) | (with_reducible refine Below.trans ?_ (Below.mono (Hid.out (by assumption)) ?_)) | omega | (simp; done) | (simp; omega)))
        · (repeat' (first | omega | (rw [hdrew]) | (with_reducible assumption) | (with_reducible exact Hid.out (by assumption)) | (with_reducible rfl) | ((with_reducible refine halloc_at _ _ _ ?_) <;> (first | (with_reducible rfl) | omega | (simp; done))) | (with_reducible refine chain6 ?_) | (with_reducible refine Eq.trans (hset_ne _ _ _ _ ?_) ?_) | (with_reducible refine Eq.trans (halloc_lt _ _ _ ?_) ?_) | (with_reducible refine Eq.trans (Below.block (Hid.out (by assumption)) _ ?_) ?_) | (simp; done) | (simp; omega)))
        · (repeat' (first | omega | (rw [hdrew]) | (with_reducible assumption) | (with_reducible exact Hid.out (by assumption)) | (with_reducible rfl) | ((with_reducible refine halloc_at _ _ _ ?_) <;> (first | (with_reducible rfl) | omega | (simp; done))) | (with_reducible refine chain6 ?_) | (with_reducible refine Eq.trans (hset_ne _ _ _ _ ?_) ?_) | (with_reducible refine Eq.trans (halloc_lt _ _ _ ?_) ?_) | (with_reducible refine Eq.trans (Below.block (Hid.out (by assumption)) _ ?_) ?_) | (simp; done) | (simp; omega)))
        · exact halloc_at _ _ _ rfl
      case round =>
        obtain ⟨k, hk, rfl, hb, hsz, b0, b2, b3⟩ := hrel
        clear hc hf
        have Hb' := Lib.hid hb
        have B0 := Lib.hid b0
        have B2 := Lib.hid b2
        have B3 := Lib.hid b3
        clear hb b0 b2 b3
        by_cases hkp : (k : Int) < p
        · obtain ⟨f0, f1, k5⟩ := ok_at hF.out k hkp
          have k5' : (k : Int) < 5 := by omega
          have f5 : t k < 5 := by omega
          have hfk := blk_at B0.out k k5
          have hok := blk_at B3.out (t k).toNat (by omega)
          have hfr := blk_free B3.out (1 + (t k).toNat)
          go_wp2_with fail
          go_roundw
          case rel =>
            refine ⟨k + 1, by omega, by go_num, Hb'.out.setCell (by simp; omega) _, by simpa using hsz, ?_, ?_, ?_⟩
            · rw [hset_ne _ _ _ _ (by simp; omega)]; exact B0.out
            · rw [hset_ne _ _ _ _ (by simp; omega)]; exact B2.out
            · exact blk_set B3.out _ (by omega) _
          case measure => simp [intOf]; omega
        · obtain ⟨e0, e1, e2, e3, e4, e5⟩ := blk6 B3.out
          obtain ⟨r0, r1, r2, r3, r4, r5⟩ := blk6 B2.out
          have hfr := blk_free B2.out
          have hK : Hid (invK t k = invm p t) := by unfold invm; rw [show p.toNat = k by omega]; rfl
          go_wp2_with fail
          refine bodyPost_ret (v := .tuple #[mv p (invK t k), .int .i64 0]) (by simp [results, Try.results20, go_sem, r0, r1, r2, r3, r4, r5]) rfl ⟨by rw [hK.out], ?_⟩
          (repeat' (first | (with_reducible exact Below.refl _ _) | (with_reducible refine Below.alloc ?_ ?_ _) | (with_reducible refine Below.setCell ?_ ?_ _) | (with_reducible refine Below.drew ?_) | (with_reducible refine below_drewN ?_ _) | (with_reducible refine Below.trans ?_ (Below.mono (Hid.out (by assumption)) ?_)) | omega | (simp; done) | (simp; omega)))

end Go.Proofs.Ythblbamiammodaa
