/- Lists of maps told by numbers; the contracts of spec.l01Less by numbers, spec.l02Find. -/
import Derived.Test.YtiogagaclhjdaaaClo
import Derived.Test.YtiogagaclhjdaaaChk
import Derived.Test.YtiogagaclhjdaaaIcm
import Derived.Test.YtiogagaclhjdaaaPowx
import Derived.StillTailTactics
namespace Go.Proofs.Ytiogagaclhjdaaa
open Go.RowKit

/-- The maps with these numbers. -/
def mE (p : Int) (K : List Nat) : List MapN := K.map fun c => (p, dcd c)

theorem mE_len (p : Int) (K : List Nat) : (mE p K).length = K.length := by unfold mE; rw [List.length_map]
theorem mE_app (p : Int) (K L : List Nat) : mE p (K ++ L) = mE p K ++ mE p L := by unfold mE; rw [List.map_append]
theorem mE_at (p : Int) (K : List Nat) (i : Nat) (hi : i < K.length) : (mE p K).getD i z0 = (p, dcd (K.getD i 0)) := by
  unfold mE
  rw [List.getD_eq_getElem?_getD, List.getD_eq_getElem?_getD, List.getElem?_map, List.getElem?_eq_getElem hi]
  rfl

theorem getD_mem {K : List Nat} {i : Nat} (hi : i < K.length) : K.getD i 0 ∈ K := by
  rw [List.getD_eq_getElem?_getD, List.getElem?_eq_getElem hi]; exact List.getElem_mem _

theorem cm_num {a b : Nat} (ha : a < 3125) (hb : b < 3125) : cm (dcd a) (dcd b) 5 = sg a b := by
  have st : ∀ (A B A' B' x y u v : Nat), A' = 5 * A + x → B' = 5 * B + y → x < 5 → y < 5 → (u = x) → (v = y) → (if sg (A : Int) B = 0 then sg (u : Int) v else sg (A : Int) B) = sg (A' : Int) B' := by
    intro A B A' B' x y u v h1 h2 h3 h4 h5 h6
    subst h5 h6 h1 h2
    simp only [sg]
    repeat' split
    all_goals omega
  have e1 : cm (dcd a) (dcd b) 1 = sg (a / 625 : Nat) (b / 625 : Nat) := by
    conv => lhs; unfold cm
    rw [show cm (dcd a) (dcd b) 0 = sg ((0 : Nat) : Int) ((0 : Nat) : Int) from rfl]; exact st _ _ _ _ (a / 625 % 5) (b / 625 % 5) _ _ (by omega) (by omega) (by omega) (by omega) rfl rfl
  have e2 : cm (dcd a) (dcd b) 2 = sg (a / 125 : Nat) (b / 125 : Nat) := by
    conv => lhs; unfold cm
    rw [e1]; exact st _ _ _ _ (a / 125 % 5) (b / 125 % 5) _ _ (by omega) (by omega) (by omega) (by omega) rfl rfl
  have e3 : cm (dcd a) (dcd b) 3 = sg (a / 25 : Nat) (b / 25 : Nat) := by
    conv => lhs; unfold cm
    rw [e2]; exact st _ _ _ _ (a / 25 % 5) (b / 25 % 5) _ _ (by omega) (by omega) (by omega) (by omega) rfl rfl
  have e4 : cm (dcd a) (dcd b) 4 = sg (a / 5 : Nat) (b / 5 : Nat) := by
    conv => lhs; unfold cm
    rw [e3]; exact st _ _ _ _ (a / 5 % 5) (b / 5 % 5) _ _ (by omega) (by omega) (by omega) (by omega) rfl rfl
  conv => lhs; unfold cm
  rw [e4]; exact st _ _ _ _ (a % 5) (b % 5) _ _ (by omega) (by omega) (by omega) (by omega) rfl rfl

theorem sg_self (a : Int) : sg a a = 0 := by unfold sg; rw [if_neg (by omega), if_neg (by omega)]

theorem or_num {p : Int} {a b : Nat} (ha : vld p a) (hb : vld p b) : orV (sg p p) (cm (dcd a) (dcd b) 5) = sg a b := by
  unfold orV; rw [if_pos (sg_self p), cm_num ha.1 hb.1]

theorem co_num {p : Int} {a b : Nat} (ha : vld p a) (hb : vld p b) : co p p (dcd a) (dcd b) = sg a b := by
  rw [co_or ha.2 hb.2, or_num ha hb]

theorem less_num {p : Int} {a b : Nat} (ha : vld p a) (hb : vld p b) (w : World) :
    Calls Try.prog 94 #[mv p (dcd a), mv p (dcd b)] w fun e w' => e = .returned (.bool (decide (a < b))) ∧ Below w.heap.size w w' := by
  have h := less_any p p (dcd a) (dcd b) (isB_pts ha.2) w
  rw [co_num ha hb] at h
  have e : decide (sg a b = -1) = decide (a < b) := by rw [sg_lt]; exact decide_eq_decide.2 (by omega)
  rw [e] at h
  exact h

theorem dcd_cells {p : Int} {a b : Nat} (ha : vld p a) (hb : vld p b) : eqB p (dcd a) p (dcd b) = decide (a = b) := by
  rw [Bool.eq_iff_iff, decide_eq_true_iff]
  constructor
  · intro h
    exact dcd_inj ha.1 hb.1 (eqB_at h).2
  · rintro rfl; exact eqB_refl _ _

set_option maxRecDepth 100000 in
set_option maxHeartbeats 1000000 in
theorem find_any {p : Int} {K : List Nat} {c : Nat} (hK : ∀ x ∈ K, vld p x) (hs : srtd K) (hc : vld p c) (hn : K.length ≤ 1000) (a : Option Addr) (cap : Nat) (w : World) (hr : InRowM w a (mE p K)) :
    Calls Try.prog 73 #[.slice a K.length cap, mv p (dcd c)] w fun e w' => e = .returned (.int .i64 (if c ∈ K then (lowN K c : Int) else -1)) ∧ Below w.heap.size w w' := by
  have HR := Lib.hid hr
  have HK := Lib.hid hK
  have HS := Lib.hid hs
  have HC := Lib.hid hc
  have HF := Lib.hid (low_found hs c)
  have hlow := lowN_le K c
  clear hr hK hs hc
  simp only [mv, mcells]
  go_enter Try.func73, Try.ntmps73
  go_wp2_with fail
  go_loopw [5, 6, 7] (fun x y _ wr => ∃ lo hi : Nat, lo ≤ lowN K c ∧ lowN K c ≤ hi ∧ hi ≤ K.length ∧ x = .int .i64 lo ∧ y = .int .i64 hi ∧ Below w.heap.size w wr ∧ wr.heap[w.heap.size]? = some (.cells (mcells p (dcd c)) 31 (0, 0))) (fun x y _ _ => (intOf y).toNat - (intOf x).toNat)
  case atStart => exact ⟨0, K.length, by omega, by omega, by omega, rfl, rfl, (Below.refl _ _).alloc (Nat.le_refl _) _, halloc_at _ _ _ rfl⟩
  case round =>
    obtain ⟨lo, hi, h1, h2, h3, rfl, rfl, hb, hbox⟩ := hrel
    have HB := Lib.hid hb
    have HX := Lib.hid hbox
    have hsz := hb.size
    have hbx : w.heap.size < wr.heap.size := (Array.getElem?_eq_some_iff.1 hbox).1
    clear hb hbox
    by_cases hlt : lo < hi
    · have hlt' : (lo : Int) < (hi : Int) := by omega
      obtain ⟨m, hm⟩ : ∃ m : Nat, ((lo : Int) + (hi : Int)) / 2 = (m : Int) := ⟨(lo + hi) / 2, by omega⟩
      have hm1 : lo ≤ m ∧ m < hi := by omega
      have hmk : m < K.length := by omega
      have hmk' : (m : Int) < (K.length : Int) := by omega
      obtain ⟨b, off, rfl, hbl, hat⟩ := (HR.out.below HB.out).at6 m (by rw [mE_len]; exact hmk)
      rw [mE_at p K m hmk] at hat
      obtain ⟨x0, x1, x2, x3, x4, x5⟩ := hat
      obtain ⟨y0, y1, y2, y3, y4, y5⟩ := blk6 HX.out
      simp only [] at x0 x1 x2 x3 x4 x5
      have HV := HK.out _ (getD_mem hmk)
      have HLL := low_lt HS.out c m hmk
      have HQ := Lib.hid fun w => less_num HV HC.out w
      simp only [mv, mcells] at HQ
      have HLL := Lib.hid HLL
      clear HV
      generalize K.getD m 0 = x at *
      go_wp2_with fail
      go_still_tail 5, (by kernel_rfl)
      go_wp2_with fail
      refine (HQ.out _).mono ?_
      rintro e w2 ⟨rfl, hb2⟩
      have hbd : Below wr.heap.size wr w2 := ⟨hb2.os, hb2.tape, hb2.output, hb2.size, fun x hx => hb2.block x hx⟩
      have HB2 : Hid (Below w.heap.size w w2) := Lib.hid (HB.out.trans (hbd.mono hsz))
      have HX2 : Hid (w2.heap[w.heap.size]? = some (.cells (mcells p (dcd c)) 31 (0, 0))) := Lib.hid ((hb2.block _ (by simpa using hbx)).trans HX.out)
      clear hb2 hbd
      by_cases hx : x < c
      · have hx2 := HLL.out.1 hx
        go_wp2_with fail
        go_roundw
        case rel => exact ⟨m + 1, hi, by omega, h2, h3, by go_num, rfl, HB2.out, HX2.out⟩
        case measure => simp [intOf]; omega
      · have hx2 : ¬ m < lowN K c := fun h => hx (HLL.out.2 h)
        go_wp2_with fail
        go_roundw
        case rel => exact ⟨lo, m, h1, by omega, by omega, rfl, rfl, HB2.out, HX2.out⟩
        case measure => simp [intOf]; omega
    · have hle : hi = lo := by omega
      subst hle
      have hlo : hi = lowN K c := by omega
      subst hlo
      by_cases hk : lowN K c < K.length
      · have hk' : (lowN K c : Int) < (K.length : Int) := by omega
        obtain ⟨b, off, rfl, hbl, hat⟩ := (HR.out.below HB.out).at6 _ (by rw [mE_len]; exact hk)
        rw [mE_at p K _ hk] at hat
        obtain ⟨x0, x1, x2, x3, x4, x5⟩ := hat
        obtain ⟨y0, y1, y2, y3, y4, y5⟩ := blk6 HX.out
        simp only [] at x0 x1 x2 x3 x4 x5
        have HV := HK.out _ (getD_mem hk)
        have hq := fun w => runEqM p (dcd (K.getD (lowN K c) 0)) p (dcd c) w
        simp only [dcd_cells HV HC.out] at hq
        have HFF := HF.out
        clear HV
        generalize K.getD (lowN K c) 0 = x at *
        by_cases hx : x = c
        · have hin : c ∈ K := HFF.2 ⟨hk, hx⟩
          have HIN := Lib.hid hin
          rw [decide_eq_true hx] at hq
          clear hin HFF hx
          go_wp2_with fail
          go_quiet (fail)
          go_wp2_with fail
          go_ret
          exact ⟨by first | rfl | rw [if_pos HIN.out], below_drewN HB.out _⟩
        · have hin : c ∉ K := fun h => hx (HFF.1 h).2
          have HIN := Lib.hid hin
          rw [decide_eq_false hx] at hq
          clear hin HFF hx
          go_wp2_with fail
          go_quiet (fail)
          go_wp2_with fail
          go_ret
          exact ⟨by first | rfl | rw [if_neg HIN.out], below_drewN HB.out _⟩
      · have hin : c ∉ K := fun h => hk (HF.out.1 h).1
        have HIN := Lib.hid hin
        clear hin
        go_wp2_with fail
        go_quiet (fail)
        go_wp2_with fail
        go_ret
        exact ⟨by first | rfl | rw [if_neg HIN.out], below_drewN HB.out _⟩

end Go.Proofs.Ytiogagaclhjdaaa
