/- Heights of points, and the contracts of spec.HeightsOf and impl.HeightsOf. -/
import Derived.Test.YtfghegjlilcafaaIp
import Derived.Test.YtfghegjlilcafaaHas
import Derived.Test.YtfghegjlilcafaaBitm
import Derived.Test.YtfghegjlilcafaaImage
import Derived.Test.YtfghegjlilcafaaCni
namespace Go.Proofs.Ytfghegjlilcafaa
open Go Go.RowKit

/-- The steps from x on to a point that is told, at most d. -/
def hgK (b : Nat → Bool) (t : Nat → Int) : Nat → Nat → Nat
  | 0, _ => 0
  | d + 1, x => if b x = true then 0 else 1 + hgK b t d (t x).toNat
theorem hgK_in {b : Nat → Bool} {x : Nat} (t : Nat → Int) (d : Nat) (h : b x = true) : hgK b t d x = 0 := by
  cases d with
  | zero => rfl
  | succ d => unfold hgK; rw [if_pos h]
theorem hgK_out {b : Nat → Bool} {x : Nat} (t : Nat → Int) (d : Nat) (h : b x = false) : hgK b t (d + 1) x = 1 + hgK b t d (t x).toNat := by
  show (if b x = true then 0 else _) = _
  rw [if_neg (by rw [h]; exact Bool.false_ne_true)]
theorem hgK_le (b : Nat → Bool) (t : Nat → Int) : ∀ d x, hgK b t d x ≤ d
  | 0, _ => Nat.le_refl _
  | d + 1, x => by
    unfold hgK
    split
    · omega
    · have := hgK_le b t d (t x).toNat; omega

/-- The cyclic points. -/
def cyB (p : Int) (t : Nat → Int) : Nat → Bool := imgB p (pow p t 60)
theorem cy_60 {p : Int} {t : Nat → Int} (hf : isB p t = true) (x : Nat) (hx : (x : Int) < p) : cyB p t (orb t 60 x) = true := by
  have h5 := (isB_pts hf).2
  unfold cyB imgB imgK
  rw [List.any_eq_true]
  refine ⟨x, List.mem_range.2 (by omega), ?_⟩
  rw [pow_at hf _ _ hx]
  simp
def hgF (p : Int) (t : Nat → Int) (x : Nat) : Nat := hgK (cyB p t) t 60 x
def hgL (p : Int) (t : Nat → Int) (n : Nat) : List Int := (List.range n).map fun x => (hgF p t x : Int)
theorem hgL_len (p : Int) (t : Nat → Int) (n : Nat) : (hgL p t n).length = n := by simp [hgL]
theorem hgL_succ (p : Int) (t : Nat → Int) (n : Nat) : hgL p t (n + 1) = hgL p t n ++ [(hgF p t n : Int)] := by simp [hgL, List.range_succ]
def hgR (p : Int) (t : Nat → Int) : List Int := if isB p t = true then hgL p t p.toNat else []
theorem hgR_yes {p : Int} {t : Nat → Int} (h : isB p t = true) : hgR p t = hgL p t p.toNat ∧ ipC p t = 0 := by unfold hgR ipC; rw [if_pos h, if_pos h]; exact ⟨rfl, rfl⟩
theorem hgR_no {p : Int} {t : Nat → Int} (h : isB p t = false) : hgR p t = [] ∧ ipC p t = 1 := by
  unfold hgR ipC; rw [if_neg (by rw [h]; exact Bool.false_ne_true), if_neg (by rw [h]; exact Bool.false_ne_true)]; exact ⟨rfl, rfl⟩

/-- Where the walk from x stands after k steps. -/
theorem hg_step {p : Int} {t : Nat → Int} (hf : isB p t = true) {x k : Nat} (hx : (x : Int) < p) (hk : k ≤ 60) (he : hgF p t x = k + hgK (cyB p t) t (60 - k) (orb t k x)) (hb : cyB p t (orb t k x) = false) :
    k + 1 ≤ 60 ∧ hgF p t x = (k + 1) + hgK (cyB p t) t (60 - (k + 1)) (orb t (k + 1) x) ∧ (orb t (k + 1) x : Int) = t (orb t k x) := by
  have hne : k ≠ 60 := fun e => by rw [e, cy_60 hf x hx] at hb; cases hb
  obtain ⟨d, hd⟩ : ∃ d, 60 - k = d + 1 := ⟨60 - k - 1, by omega⟩
  have hlt := orb_lt hf k x hx
  have ho : orb t (k + 1) x = (t (orb t k x)).toNat := rfl
  have h0 := (ok_at hf (orb t k x) hlt).1
  rw [hd, hgK_out t d hb] at he
  refine ⟨by omega, ?_, by rw [ho]; omega⟩
  rw [he, show 60 - (k + 1) = d by omega, ho]
  omega

theorem and_mask0 (b : Nat → Bool) (j : Nat) (hj : j < 5) : (bits BinOp.and IntKind.i64 (mask b / 2 ^ j) 1 == 0) = !b j := by
  rcases (by omega : j = 0 ∨ j = 1 ∨ j = 2 ∨ j = 3 ∨ j = 4) with rfl | rfl | rfl | rfl | rfl <;>
    (unfold mask bi; cases b 0 <;> cases b 1 <;> cases b 2 <;> cases b 3 <;> cases b 4 <;> kernel_rfl)

set_option maxRecDepth 100000 in
set_option maxHeartbeats 2000000 in
theorem shgt_any (p : Int) (t : Nat → Int) (w : World) :
    Calls Try.prog 43 #[mv p t] w (RetRow w.heap.size (hgR p t) (ipC p t) w) := by
  have HL := fun w => lis_any p t w
  cases hv : isB p t
  · rw [(hgR_no hv).1, (hgR_no hv).2]
    rw [hv] at HL
    have HL := Lib.hid HL
    simp only [mv, mcells]
    go_enter Try.func43, Try.ntmps43
    go_wp2_with fail
    (refine (HL.out _).mono ?_; rintro e w1 ⟨rfl, hb⟩; obtain ⟨hc, hf⟩ := bcell hb; have hz := hb.size; have Hb := Lib.hid hb; (try simp at hz hc hf); (try (have hy := Nat.lt_of_succ_le hz)); have hz0 : w.heap.size < w1.heap.size := (by omega); clear hb)
    go_wp2_with fail
    go_ret2
    refine ⟨none, 0, rfl, ⟨by simp, Or.inl rfl⟩, ?_⟩
    (repeat' (first | (with_reducible exact Below.refl _ _) | (with_reducible refine Below.alloc ?_ ?_ _) | (with_reducible refine Below.setCell ?_ ?_ _) | (with_reducible refine Below.drew ?_) | (with_reducible refine below_drewN ?_ _) | (with_reducible refine Below.trans ?_ (Below.mono (Hid.out (by assumption)) ?_)) | omega | (simp; done) | (simp; omega)))
  rw [(hgR_yes hv).1, (hgR_yes hv).2]
  rw [hv] at HL
  have HL := Lib.hid HL
  have HP := Lib.hid fun w => spow_any p t hv 60 (by omega) (by omega) w
  simp only [show (60 : Int).toNat = 60 from rfl] at HP
  have HG := Lib.hid fun w => simg_any p (pow p t 60) (pow_ok hv 60) w
  have HAND := Lib.hid fun j hj => and_mask0 (imgB p (pow p t 60)) j hj
  have hMd := mask_bd (imgB p (pow p t 60))
  have HV := Lib.hid hv
  obtain ⟨h1, h5⟩ := isB_pts hv
  obtain ⟨m, rfl⟩ := Int.eq_ofNat_of_zero_le (show 0 ≤ p by omega)
  simp only [Int.toNat_natCast]
  have hm5 : m ≤ 5 := by omega
  have HCY : Hid (imgB (m : Int) (pow (m : Int) t 60) = cyB (m : Int) t) := Lib.hid rfl
  rw [HCY.out] at HAND hMd HG
  have HLEN := Lib.hid (hgL_len (m : Int) t)
  have HSUC := Lib.hid (hgL_succ (m : Int) t)
  clear hv
  generalize mask (cyB (m : Int) t) = M at *
  simp only [mv, mcells] at *
  go_enter Try.func43, Try.ntmps43
  go_wp2_with fail
  (refine (HL.out _).mono ?_; rintro e w1 ⟨rfl, hb⟩; obtain ⟨hc, hf⟩ := bcell hb; have hz := hb.size; have Hb := Lib.hid hb; (try simp at hz hc hf); (try (have hy := Nat.lt_of_succ_le hz)); have hz0 : w.heap.size < w1.heap.size := (by omega); clear hb)
  have Hb1 := Hb
  go_wp2_with fail
  (refine (HP.out _).mono ?_; rintro e w1 ⟨rfl, hb⟩; simp only []; obtain ⟨hc, hf⟩ := bcell hb; have hz := hb.size; have Hb := Lib.hid hb; (try simp at hz hc hf); (try (have hy := Nat.lt_of_succ_le hz)); have hz0 : w.heap.size < w1.heap.size := (by omega); clear hb)
  have Hb2 := Hb
  go_wp2_with fail
  (refine (HG.out _).mono ?_; rintro e w1 ⟨rfl, hb⟩; obtain ⟨hc, hf⟩ := bcell hb; have hz := hb.size; have Hb := Lib.hid hb; (try simp at hz hc hf); (try (have hy := Nat.lt_of_succ_le hz)); have hz0 : w.heap.size < w1.heap.size := (by omega); clear hb)
  have Hb3 := Hb
  go_wp2_with fail
  obtain ⟨wz, hwz⟩ : ∃ wz, wz = w1.alloc (.cells #[] 2) := ⟨_, rfl⟩
  have HOE : Hid (Own wz (w.heap.size + 1) (.slice (some ⟨w1.heap.size, 0, none⟩) 0 0) []) := Lib.hid (by rw [hwz]; exact own_empty w1 _ (by omega))
  have HBZ : Hid (Below w.heap.size w wz) := Lib.hid (by rw [hwz]; (repeat' (first | (with_reducible exact Below.refl _ _) | (with_reducible refine Below.alloc ?_ ?_ _) | (with_reducible refine Below.setCell ?_ ?_ _) | (with_reducible refine Below.drew ?_) | (with_reducible refine below_drewN ?_ _) | (with_reducible refine Below.trans ?_ (Below.mono (Hid.out (by assumption)) ?_)) | omega | (simp; done) | (simp; omega))))
  have HXZ : Hid (wz.heap[w.heap.size]? = some (.cells (mcells (m : Int) t) 28 (0, 0))) := Lib.hid (by rw [hwz]; (repeat' (first | omega | (rw [hdrew]) | (with_reducible assumption) | (with_reducible exact Hid.out (by assumption)) | (with_reducible rfl) | ((with_reducible refine halloc_at _ _ _ ?_) <;> (first | (with_reducible rfl) | omega | (simp; done))) | (with_reducible refine chain6 ?_) | (with_reducible refine Eq.trans (hset_ne _ _ _ _ ?_) ?_) | (with_reducible refine Eq.trans (halloc_lt _ _ _ ?_) ?_) | (with_reducible refine Eq.trans (Below.block (Hid.out (by assumption)) _ ?_) ?_) | (simp; done) | (simp; omega))))
  have hzz : w.heap.size < wz.heap.size := by rw [hwz]; simp; omega
  rw [← hwz]
  clear hwz hc hf hz hz0 hy Hb Hb1 Hb2 Hb3
  go_loopw [5, 6, 7, 8] (fun v i _ _ wr => ∃ k : Nat, k ≤ m ∧ i = .int .i64 k ∧ Own wr (w.heap.size + 1) v (hgL (m : Int) t k) ∧ Below w.heap.size w wr ∧ w.heap.size < wr.heap.size ∧ wr.heap[w.heap.size]? = some (.cells (mcells (m : Int) t) 28 (0, 0))) (fun _ i _ _ _ => m - (intOf i).toNat)
  case atStart => exact ⟨0, by omega, rfl, HOE.out, HBZ.out, hzz, HXZ.out⟩
  case round =>
    obtain ⟨k, hk, rfl, hown, hb, hsz, hbx⟩ := hrel
    have HO := Lib.hid hown
    have HB := Lib.hid hb
    have HX := Lib.hid hbx
    have e0 := (blk6 hbx).1
    clear hown hb hbx
    obtain ⟨wo, hwo⟩ : ∃ wo, wo = wr := ⟨_, rfl⟩
    subst hwo
    by_cases hkm : k < m
    · have hkm' : (k : Int) < (m : Int) := by omega
      go_wp2_with fail
      go_loopw [7, 8] (fun h q wx => ∃ j : Nat, j ≤ 60 ∧ h = .int .i64 j ∧ q = .int .i64 (orb t j k : Nat) ∧ hgF (m : Int) t k = j + hgK (cyB (m : Int) t) t (60 - j) (orb t j k) ∧ wx = wo) (fun h _ _ => 60 - (intOf h).toNat)
      case atStart => exact ⟨0, by omega, rfl, rfl, by rw [Nat.zero_add]; rfl, rfl⟩
      case round =>
        obtain ⟨j, hj, rfl, rfl, hg, rfl⟩ := hrel
        have hlt := orb_lt HV.out j k hkm'
        have hq5 : orb t j k < 5 := by omega
        have hand := HAND.out (orb t j k) hq5
        cases hbq : cyB (m : Int) t (orb t j k)
        · obtain ⟨g1, g2, g3⟩ := hg_step HV.out hkm' hj hg hbq
          have HG2 := Lib.hid g2
          have HG3 := Lib.hid g3
          rw [hbq] at hand
          have hcq := blk_at HX.out (orb t j k) hq5
          have hq5' : (orb t j k : Int) < 5 := by omega
          clear hbq hg g2 g3
          generalize orb t j k = q0 at *
          go_wp2_with fail
          go_roundw
          case rel => exact ⟨j + 1, g1, by go_num, by rw [HG3.out], HG2.out, trivial⟩
          case measure => simp [intOf]; omega
        · rw [hgK_in t _ hbq, Nat.add_zero] at hg
          have HS1 := Lib.hid (HSUC.out k)
          rw [hg] at HS1
          have HL1 := Lib.hid (HLEN.out k)
          rw [hbq] at hand
          clear hbq hg
          generalize orb t j k = q0 at *
          go_wp2_with (at_builtin; refine wpList_app9 rfl _ _ rfl (w.heap.size + 1) _ (hgL (m : Int) t k) rfl (HO.out.alloc _) wr.heap.size 1 (j : Int) rfl (halloc_at _ _ _ rfl) (by rw [HL1.out]; omega) (by simp; omega) ?_; intro v' w5 ho hg _)
          have hne := fun (r : Nat) (e : u5.ownBlock = some r) => (HO.out.lt r e).1
          have hb3 : Below w.heap.size w w5 := (HB.out.alloc (by omega) _).grown hg (by simp; omega) (fun r e => by have := hne r e; omega)
          have hx3 : w5.heap[w.heap.size]? = some (.cells (mcells (m : Int) t) 28 (0, 0)) := (hg.block _ (by simp; omega) (fun e => by have := hne _ e.symm; omega)).trans ((halloc_lt _ _ _ hsz).trans HX.out)
          have hz5 : w.heap.size < w5.heap.size := (Array.getElem?_eq_some_iff.1 hx3).1
          rw [← HS1.out] at ho
          have HO3 := Lib.hid ho
          have HB3 := Lib.hid hb3
          have HX3 := Lib.hid hx3
          clear ho hg hb3 hx3 hne
          go_wp2_with fail
          go_roundw
          case rel => exact ⟨k + 1, by omega, by go_num, HO3.out, HB3.out, hz5, HX3.out⟩
          case measure => simp [intOf]; omega
    · obtain rfl : k = m := by omega
      obtain ⟨a, c, rfl, hrd⟩ := own_rd HO.out (by rw [HLEN.out]; omega)
      have HR := Lib.hid hrd
      clear hrd
      go_wp2_with fail
      go_ret2
      exact ⟨a, c, rfl, HR.out.mono (by omega), HB.out⟩

theorem asc_has (b : Nat → Bool) (j : Nat) (hj : j < 5) : (asc b).contains (j : Int) = b j := by
  rw [Bool.eq_iff_iff, List.contains_iff_mem]
  unfold asc ascK
  simp only [List.mem_map, List.mem_filter, List.mem_range]
  constructor
  · rintro ⟨i, ⟨_, h⟩, e⟩
    obtain rfl : i = j := by have e2 : (i : Int) = (j : Int) := e; omega
    exact h
  · intro h
    exact ⟨j, ⟨hj, h⟩, rfl⟩

set_option maxRecDepth 100000 in
set_option maxHeartbeats 2000000 in
theorem ihgt_any (p : Int) (t : Nat → Int) (w : World) :
    Calls Try.prog 44 #[mv p t] w (RetRow w.heap.size (hgR p t) (ipC p t) w) := by
  have HL := fun w => iis_any p t w
  cases hv : isB p t
  · rw [(hgR_no hv).1, (hgR_no hv).2]
    rw [hv] at HL
    have HL := Lib.hid HL
    simp only [mv, mcells]
    go_enter Try.func44, Try.ntmps44
    go_wp2_with fail
    (refine (HL.out _).mono ?_; rintro e w1 ⟨rfl, hb⟩; obtain ⟨hc, hf⟩ := bcell hb; have hz := hb.size; have Hb := Lib.hid hb; (try simp at hz hc hf); (try (have hy := Nat.lt_of_succ_le hz)); have hz0 : w.heap.size < w1.heap.size := (by omega); clear hb)
    go_wp2_with fail
    go_ret2
    refine ⟨none, 0, rfl, ⟨by simp, Or.inl rfl⟩, ?_⟩
    (repeat' (first | (with_reducible exact Below.refl _ _) | (with_reducible refine Below.alloc ?_ ?_ _) | (with_reducible refine Below.setCell ?_ ?_ _) | (with_reducible refine Below.drew ?_) | (with_reducible refine below_drewN ?_ _) | (with_reducible refine Below.trans ?_ (Below.mono (Hid.out (by assumption)) ?_)) | omega | (simp; done) | (simp; omega)))
  rw [(hgR_yes hv).1, (hgR_yes hv).2]
  rw [hv] at HL
  have HL := Lib.hid HL
  have HP := Lib.hid fun w => icy_any p t hv w
  have HCL := Lib.hid (asc_len (imgB p (pow p t 60)))
  have HIN := Lib.hid fun j hj => asc_has (imgB p (pow p t 60)) j hj
  have HV := Lib.hid hv
  obtain ⟨h1, h5⟩ := isB_pts hv
  obtain ⟨m, rfl⟩ := Int.eq_ofNat_of_zero_le (show 0 ≤ p by omega)
  simp only [Int.toNat_natCast]
  have hm5 : m ≤ 5 := by omega
  have HCY : Hid (imgB (m : Int) (pow (m : Int) t 60) = cyB (m : Int) t) := Lib.hid rfl
  rw [HCY.out] at HP HCL HIN
  have HLEN := Lib.hid (hgL_len (m : Int) t)
  have HSUC := Lib.hid (hgL_succ (m : Int) t)
  clear hv
  generalize asc (cyB (m : Int) t) = R at *
  simp only [mv, mcells] at *
  go_enter Try.func44, Try.ntmps44
  go_wp2_with fail
  (refine (HL.out _).mono ?_; rintro e w1 ⟨rfl, hb⟩; obtain ⟨hc, hf⟩ := bcell hb; have hz := hb.size; have Hb := Lib.hid hb; (try simp at hz hc hf); (try (have hy := Nat.lt_of_succ_le hz)); have hz0 : w.heap.size < w1.heap.size := (by omega); clear hb)
  have Hb1 := Hb
  go_wp2_with fail
  refine (HP.out _).mono ?_
  rintro e w2 ⟨v, rfl, hown, hbel⟩
  obtain ⟨ax, cx, rfl, hrd⟩ := own_rd hown HCL.out
  have hzz := hbel.size
  have HBZ : Hid (Below w.heap.size w w2) := Lib.hid (by
    have HB2 := Lib.hid hbel
    (repeat' (first | (with_reducible exact Below.refl _ _) | (with_reducible refine Below.alloc ?_ ?_ _) | (with_reducible refine Below.setCell ?_ ?_ _) | (with_reducible refine Below.drew ?_) | (with_reducible refine below_drewN ?_ _) | (with_reducible refine Below.trans ?_ (Below.mono (Hid.out (by assumption)) ?_)) | omega | (simp; done) | (simp; omega))))
  have HXZ : Hid (w2.heap[w.heap.size]? = some (.cells (mcells (m : Int) t) 28 (0, 0))) := Lib.hid (by
    have HB2 := Lib.hid hbel
    (repeat' (first | omega | (rw [hdrew]) | (with_reducible assumption) | (with_reducible exact Hid.out (by assumption)) | (with_reducible rfl) | ((with_reducible refine halloc_at _ _ _ ?_) <;> (first | (with_reducible rfl) | omega | (simp; done))) | (with_reducible refine chain6 ?_) | (with_reducible refine Eq.trans (hset_ne _ _ _ _ ?_) ?_) | (with_reducible refine Eq.trans (halloc_lt _ _ _ ?_) ?_) | (with_reducible refine Eq.trans (Below.block (Hid.out (by assumption)) _ ?_) ?_) | (simp; done) | (simp; omega))))
  have hz2 : w.heap.size < w2.heap.size := by omega
  have HRD := Lib.hid hrd.inRow
  clear hbel hown hrd hc hf hz hz0 hy Hb Hb1 hzz
  have e0 := (blk6 HXZ.out).1
  go_wp2_with fail
  clear e0
  go_loopw [5, 6, 7, 8, 16] (fun v _ _ _ i wr => ∃ k : Nat, k ≤ m ∧ i = .int .i64 k ∧ Own wr w2.heap.size v (hgL (m : Int) t k) ∧ Below w2.heap.size w2 wr) (fun _ _ _ _ i _ => m - (intOf i).toNat)
  case atStart => exact ⟨0, by omega, rfl, World.ownsRow_nil _ _ _ _, Below.refl _ _⟩
  case round =>
    obtain ⟨k, hk, rfl, hown, hb⟩ := hrel
    have HO := Lib.hid hown
    have HB := Lib.hid hb
    have HX : Hid (wr.heap[w.heap.size]? = some (.cells (mcells (m : Int) t) 28 (0, 0))) := Lib.hid ((hb.block _ hz2).trans HXZ.out)
    have HRW := Lib.hid (HRD.out.below hb)
    have hsz := hb.size
    have hz3 : w.heap.size < wr.heap.size := by omega
    clear hown hb
    obtain ⟨wo, hwo⟩ : ∃ wo, wo = wr := ⟨_, rfl⟩
    subst hwo
    by_cases hkm : k < m
    · have hkm' : (k : Int) < (m : Int) := by omega
      go_wp2_with fail
      go_loopw [7, 8] (fun h q wx => ∃ j : Nat, j ≤ 60 ∧ h = .int .i64 j ∧ q = .int .i64 (orb t j k : Nat) ∧ hgF (m : Int) t k = j + hgK (cyB (m : Int) t) t (60 - j) (orb t j k) ∧ wx = wo) (fun h _ _ => 60 - (intOf h).toNat)
      case atStart => exact ⟨0, by omega, rfl, rfl, by rw [Nat.zero_add]; rfl, rfl⟩
      case round =>
        obtain ⟨j, hj, rfl, rfl, hg, rfl⟩ := hrel
        have hlt := orb_lt HV.out j k hkm'
        have hq5 : orb t j k < 5 := by omega
        have hand := HIN.out (orb t j k) hq5
        have HCO := Lib.hid (contains_any R (orb t j k : Int) (by have := HCL.out; omega) ax cx wr HRW.out)
        cases hbq : cyB (m : Int) t (orb t j k)
        · obtain ⟨g1, g2, g3⟩ := hg_step HV.out hkm' hj hg hbq
          have HG2 := Lib.hid g2
          have HG3 := Lib.hid g3
          rw [hand, hbq] at HCO
          have hcq := blk_at HX.out (orb t j k) hq5
          have hq5' : (orb t j k : Int) < 5 := by omega
          clear hbq hg g2 g3
          generalize orb t j k = q0 at *
          go_wp2_with fail
          refine HCO.out.mono ?_
          rintro e wr ⟨rfl, rfl⟩
          go_wp2_with fail
          go_roundw
          case rel => exact ⟨j + 1, g1, by go_num, by rw [HG3.out], HG2.out, trivial⟩
          case measure => simp [intOf]; omega
        · rw [hgK_in t _ hbq, Nat.add_zero] at hg
          have HS1 := Lib.hid (HSUC.out k)
          rw [hg] at HS1
          have HL1 := Lib.hid (HLEN.out k)
          rw [hand, hbq] at HCO
          clear hbq hg
          generalize orb t j k = q0 at *
          go_wp2_with fail
          refine HCO.out.mono ?_
          rintro e wr ⟨rfl, rfl⟩
          go_wp2_with (at_builtin; refine wpList_app9 rfl _ _ rfl w2.heap.size _ (hgL (m : Int) t k) rfl (HO.out.alloc _) wr.heap.size 1 (j : Int) rfl (halloc_at _ _ _ rfl) (by rw [HL1.out]; omega) (by simp; omega) ?_; intro v' w5 ho hg _)
          have hne := fun (r : Nat) (e : u5.ownBlock = some r) => (HO.out.lt r e).1
          have hb3 : Below w2.heap.size w2 w5 := (HB.out.alloc (by omega) _).grown hg (by simp; omega) (fun r e => hne r e)
          rw [← HS1.out] at ho
          have HO3 := Lib.hid ho
          have HB3 := Lib.hid hb3
          clear ho hg hb3 hne
          go_wp2_with fail
          go_roundw
          case rel => exact ⟨k + 1, by omega, by go_num, HO3.out, HB3.out⟩
          case measure => simp [intOf]; omega
    · obtain rfl : k = m := by omega
      obtain ⟨a, c, rfl, hrd⟩ := own_rd HO.out (by rw [HLEN.out]; omega)
      have HR := Lib.hid hrd
      clear hrd
      go_wp2_with fail
      go_ret2
      exact ⟨a, c, rfl, HR.out.mono (by omega), HBZ.out.trans (HB.out.mono (by omega))⟩

end Go.Proofs.Ytfghegjlilcafaa
