/- Fixed points: the contracts of impl.fixedPoints, impl.FixedPoints and spec.FixedPoints. -/
import Derived.Test.YthblbamiammodaaSl
import Derived.Test.YthblbamiammodaaBase
namespace Go.Proofs.Ythblbamiammodaa
open Go.RowKit

/-- The fixed points among the first k. -/
def fixK (t : Nat → Int) (k : Nat) : Nat → Bool := fun i => if i < k then t i == (i : Int) else false

def fixB (p : Int) (t : Nat → Int) : Nat → Bool := fixK t p.toNat

theorem fixK_succ (t : Nat → Int) (k : Nat) : (fun i => if i = k then t k == (k : Int) else fixK t k i) = fixK t (k + 1) := by
  funext i
  unfold fixK
  by_cases h : i = k
  · subst h; simp
  · by_cases h' : i < k
    · rw [if_neg h, if_pos h', if_pos (by omega)]
    · rw [if_neg h, if_neg h', if_neg (by omega)]

theorem ascK_cut (b : Nat → Bool) (k : Nat) : ∀ n, k ≤ n → (∀ i, k ≤ i → b i = false) → ascK b n = ascK b k
  | 0, hk, _ => by rw [show k = 0 by omega]
  | n + 1, hk, hb => by
    by_cases h : k = n + 1
    · rw [h]
    · rw [ascK_succ, if_neg (by rw [hb n (by omega)]; exact Bool.false_ne_true)]
      exact ascK_cut b k n (by omega) hb

theorem ascK_congr (b c : Nat → Bool) : ∀ n, (∀ i, i < n → b i = c i) → ascK b n = ascK c n
  | 0, _ => rfl
  | n + 1, h => by
    rw [ascK_succ, ascK_succ, h n (by omega), ascK_congr b c n (fun i hi => h i (by omega))]

set_option maxHeartbeats 1000000 in
theorem ifix_all (p : Int) (t : Nat → Int) (h1 : 0 ≤ p) (h5 : p ≤ 5) (w : World) :
    Calls Try.prog 50 #[mv p t] w (RetOwn w.heap.size (asc (fixB p t)) w) := by
  simp only [mv, mcells]
  go_enter Try.func50, Try.ntmps50
  go_wp2_with fail
  go_loopw [4, 7] (fun _ i wr => ∃ (k : Nat), (k : Int) ≤ p ∧ i = .int .i64 k ∧ Below w.heap.size w wr ∧ w.heap.size + 1 < wr.heap.size ∧
      wr.heap[w.heap.size]? = some (.cells (mcells p t) 26 (0, 0)) ∧ wr.heap[w.heap.size + 1]? = some (.cells (cells5 (fixK t k)) 74 (0, 0))) (fun _ i _ => (p - intOf i).toNat)
  case atStart =>
    refine ⟨0, by omega, rfl, ?_, by simp, ?_, ?_⟩
    · (repeat' (first | (with_reducible exact Below.refl _ _) | (with_reducible refine Below.alloc ?_ ?_ _) | (with_reducible refine Below.setCell ?_ ?_ _) | (with_reducible refine Below.drew ?_) | (with_reducible refine below_drewN ?_ _) | (with_reducible refine Below.trans ?_ (Below.mono (Hid.out (by assumption)) ?_)) | omega | (simp; done) | (simp; omega)))
    · ((try rw [hdrew]); simp only [halloc, Array.getElem?_push, Array.size_push]; (repeat (first | rw [if_pos (by omega)] | rw [if_neg (by omega)])); try rfl)
    · ((try rw [hdrew]); simp only [halloc, Array.getElem?_push, Array.size_push]; (repeat (first | rw [if_pos (by omega)] | rw [if_neg (by omega)])); try rfl)
  case round =>
    obtain ⟨k, hk, rfl, hb, hsz, b0, b1⟩ := hrel
    have Hb := Lib.hid hb
    have B0 := Lib.hid b0
    have B1 := Lib.hid b1
    clear hb b0 b1
    by_cases hkp : (k : Int) < p
    · have k5 : k < 5 := by omega
      have k5' : (k : Int) < 5 := by omega
      have hfk := blk_at B0.out k k5
      have hok := blk5_at B1.out k k5
      have hfr := blk_free B1.out k
      have hput := cells5_put (fixK t k) k k5 (t k == (k : Int))
      rw [fixK_succ] at hput
      have HPUT := Lib.hid hput
      clear hput
      go_wp2_with fail
      go_roundw
      case rel =>
        refine ⟨k + 1, by omega, by go_num, Hb.out.setCell (by simp) _, by simpa using hsz, ?_, ?_⟩
        · rw [hset_ne _ _ _ _ (by simp)]; exact B0.out
        · rw [Joins.block_setCell B1.out, HPUT.out]
      case measure => simp [intOf]; omega
    · have hK : Hid (fixK t k = fixB p t) := by unfold fixB; rw [show p.toNat = k by omega]; rfl
      obtain ⟨e0, e1, e2, e3, e4⟩ := blk5 B1.out
      have HR := Lib.hid (asc_any (fixK t k))
      simp only [cells5] at HR
      go_wp2_with fail
      refine (HR.out _).mono ?_
      rintro e w1 ⟨v, rfl, hown, hbel⟩
      have HB := Lib.hid hbel
      have HO := Lib.hid hown
      clear hbel hown
      go_wp2_with fail
      go_ret
      refine ⟨_, rfl, ?_, ?_⟩
      · rw [← hK.out]; exact Joins.ownsRow_le HO.out (by omega)
      · (repeat' (first | (with_reducible exact Below.refl _ _) | (with_reducible refine Below.alloc ?_ ?_ _) | (with_reducible refine Below.setCell ?_ ?_ _) | (with_reducible refine Below.drew ?_) | (with_reducible refine below_drewN ?_ _) | (with_reducible refine Below.trans ?_ (Below.mono (Hid.out (by assumption)) ?_)) | omega | (simp; done) | (simp; omega)))

theorem ifix_any (p : Int) (t : Nat → Int) (hf : isB p t = true) (w : World) :
    Calls Try.prog 50 #[mv p t] w (RetOwn w.heap.size (asc (fixB p t)) w) := by
  obtain ⟨h1, h5⟩ := isB_pts hf
  exact ifix_all p t (by omega) h5 w

theorem asc_len (b : Nat → Bool) : (asc b).length ≤ 2000000 := by have := ascK_len b 5; unfold asc; omega

def fixL (p : Int) (t : Nat → Int) : List Int := if isB p t = true then asc (fixB p t) else []

def fixC (p : Int) (t : Nat → Int) : Int := if isB p t = true then 0 else 1

theorem fix_asc {p : Int} (t : Nat → Int) (k : Nat) (hk : p.toNat = k) (h5 : k ≤ 5) : ascK (fun i => t i == (i : Int)) k = asc (fixB p t) := by
  unfold asc fixB
  rw [hk, ascK_cut (fixK t k) k 5 h5 (fun i hi => by unfold fixK; rw [if_neg (by omega)])]
  exact ascK_congr _ _ k (fun i hi => by unfold fixK; rw [if_pos hi])

set_option maxHeartbeats 1000000 in
theorem iFixed_any (p : Int) (t : Nat → Int) (w : World) :
    Calls Try.prog 17 #[mv p t] w (RetRow w.heap.size (fixL p t) (fixC p t) w) := by
  cases hv : isB p t
  · have e1 : fixL p t = [] := by unfold fixL; rw [if_neg (by rw [hv]; exact Bool.false_ne_true)]
    have e2 : fixC p t = 1 := by unfold fixC; rw [if_neg (by rw [hv]; exact Bool.false_ne_true)]
    rw [e1, e2]
    clear e1 e2
    simp only [mv, mcells]
    go_enter Try.func17, Try.ntmps17
    go_wp2_with fail
    (refine (iis_any p t _).mono ?_; rintro e w1 ⟨rfl, hb⟩; obtain ⟨hc, hf⟩ := bcell hb; have hz := hb.size; have Hb := Lib.hid hb; (try simp at hz hc hf); (try (have hy := Nat.lt_of_succ_le hz)); have hz0 : w.heap.size < w1.heap.size := (by omega); clear hb)
    go_wp2_with fail
    go_ret2
    refine ⟨none, 0, rfl, ⟨by simp, Or.inl rfl⟩, ?_⟩
    (repeat' (first | (with_reducible exact Below.refl _ _) | (with_reducible refine Below.alloc ?_ ?_ _) | (with_reducible refine Below.setCell ?_ ?_ _) | (with_reducible refine Below.drew ?_) | (with_reducible refine below_drewN ?_ _) | (with_reducible refine Below.trans ?_ (Below.mono (Hid.out (by assumption)) ?_)) | omega | (simp; done) | (simp; omega)))
  · have e1 : fixL p t = asc (fixB p t) := by unfold fixL; rw [if_pos hv]
    have e2 : fixC p t = 0 := by unfold fixC; rw [if_pos hv]
    rw [e1, e2]
    clear e1 e2
    have HF := Lib.hid fun w => ifix_any p t hv w
    simp only [mv, mcells]
    go_enter Try.func17, Try.ntmps17
    go_wp2_with fail
    (refine (iis_any p t _).mono ?_; rintro e w1 ⟨rfl, hb⟩; obtain ⟨hc, hf⟩ := bcell hb; have hz := hb.size; have Hb := Lib.hid hb; (try simp at hz hc hf); (try (have hy := Nat.lt_of_succ_le hz)); have hz0 : w.heap.size < w1.heap.size := (by omega); clear hb)
    have Hb1 := Hb
    go_wp2_with fail
    refine (HF.out _).mono ?_
    rintro e w2 ⟨v, rfl, hown, hbel⟩
    obtain ⟨a, cap, rfl, hrd⟩ := own_rd hown (asc_len _)
    have HB := Lib.hid hbel
    have HO := Lib.hid hrd
    clear hbel hown hrd
    go_wp2_with fail
    go_ret2
    refine ⟨a, cap, rfl, HO.out.mono (by omega), ?_⟩
    (repeat' (first | (with_reducible exact Below.refl _ _) | (with_reducible refine Below.alloc ?_ ?_ _) | (with_reducible refine Below.setCell ?_ ?_ _) | (with_reducible refine Below.drew ?_) | (with_reducible refine below_drewN ?_ _) | (with_reducible refine Below.trans ?_ (Below.mono (Hid.out (by assumption)) ?_)) | omega | (simp; done) | (simp; omega)))

set_option maxHeartbeats 1000000 in
theorem sFixed_any (p : Int) (t : Nat → Int) (w : World) :
    Calls Try.prog 31 #[mv p t] w (RetRow w.heap.size (fixL p t) (fixC p t) w) := by
  cases hv : isB p t
  · have e1 : fixL p t = [] := by unfold fixL; rw [if_neg (by rw [hv]; exact Bool.false_ne_true)]
    have e2 : fixC p t = 1 := by unfold fixC; rw [if_neg (by rw [hv]; exact Bool.false_ne_true)]
    rw [e1, e2]
    clear e1 e2
    simp only [mv, mcells]
    go_enter Try.func31, Try.ntmps31
    go_wp2_with fail
    (refine (lis_any p t _).mono ?_; rintro e w1 ⟨rfl, hb⟩; obtain ⟨hc, hf⟩ := bcell hb; have hz := hb.size; have Hb := Lib.hid hb; (try simp at hz hc hf); (try (have hy := Nat.lt_of_succ_le hz)); have hz0 : w.heap.size < w1.heap.size := (by omega); clear hb)
    go_wp2_with fail
    go_ret2
    refine ⟨none, 0, rfl, ⟨by simp, Or.inl rfl⟩, ?_⟩
    (repeat' (first | (with_reducible exact Below.refl _ _) | (with_reducible refine Below.alloc ?_ ?_ _) | (with_reducible refine Below.setCell ?_ ?_ _) | (with_reducible refine Below.drew ?_) | (with_reducible refine below_drewN ?_ _) | (with_reducible refine Below.trans ?_ (Below.mono (Hid.out (by assumption)) ?_)) | omega | (simp; done) | (simp; omega)))
  · have e1 : fixL p t = asc (fixB p t) := by unfold fixL; rw [if_pos hv]
    have e2 : fixC p t = 0 := by unfold fixC; rw [if_pos hv]
    rw [e1, e2]
    clear e1 e2
    obtain ⟨h1, h5⟩ := isB_pts hv
    have hL := fun w => lis_any p t w
    rw [hv] at hL
    have HL := Lib.hid hL
    clear hL hv
    simp only [mv, mcells]
    go_enter Try.func31, Try.ntmps31
    go_wp2_with fail
    (refine (HL.out _).mono ?_; rintro e w1 ⟨rfl, hb⟩; obtain ⟨hc, hf⟩ := bcell hb; have hz := hb.size; have Hb := Lib.hid hb; (try simp at hz hc hf); (try (have hy := Nat.lt_of_succ_le hz)); have hz0 : w.heap.size < w1.heap.size := (by omega); clear hb)
    go_wp2_with fail
    obtain ⟨i0, hi, hz0', hz1', hz2'⟩ := info_parts info_int
    obtain ⟨wo, hwo⟩ : ∃ wo, wo = w1 := ⟨_, rfl⟩
    subst hwo
    go_loopw [4, 5] (fun v i wr => ∃ k : Nat, (k : Int) ≤ p ∧ i = .int .i64 k ∧ wr.ownsRow (w.heap.size + 1) 2 1 v (ascK (fun i => t i == (i : Int)) k).length ((ascK (fun i => t i == (i : Int)) k).map (Value.int .i64)) ∧ Below (w.heap.size + 1) (w.alloc (.cells (mcells p t) 26)) wr) (fun _ i _ => (p - intOf i).toNat)
    case atStart => exact ⟨0, by omega, rfl, own_empty _ _ (by omega), (by simpa using Hb.out : Below (w.heap.size + 1) _ _).alloc (by omega) _⟩
    case round =>
      clear hc hf
      obtain ⟨k, hk, rfl, hown, hb⟩ := hrel
      have hp := new_cell hb (Nat.lt_succ_self _) 0
      simp only [mcells, List.getElem?_toArray, List.getElem?_cons_zero] at hp
      have Hb' := Lib.hid hb
      have hsz := hb.size
      simp at hsz
      by_cases hkp : (k : Int) < p
      · have k5 : k < 5 := by omega
        have k5' : (k : Int) < 5 := by omega
        have hc := (new_cell hb (Nat.lt_succ_self _) (1 + k)).trans (mcells_at p t k k5)
        clear hb
        have hlen := ascK_len (fun i => t i == (i : Int)) k
        cases hs : (t k == (k : Int))
        · have hown' : Hid (wr.ownsRow (w.heap.size + 1) 2 1 u4 (ascK (fun i => t i == (i : Int)) (k + 1)).length ((ascK (fun i => t i == (i : Int)) (k + 1)).map (Value.int .i64))) := by
            refine Lib.hid ?_
            rw [ascK_succ, if_neg (by simp only [hs]; exact Bool.false_ne_true)]; exact hown
          clear hown
          go_wp2_with fail
          go_roundw
          case rel => exact ⟨k + 1, by omega, by go_num, hown'.out, Hb'.out⟩
          case measure => simp [intOf]; omega
        · have Hst : Hid ((t k == (k : Int)) = true) := Lib.hid hs
          go_wp2_with (at_builtin; refine wpList_append_own _ rfl _ _ 34 rfl (w.heap.size + 1) 2 i0 (.int .i64 0) 1 8 Try.underlying34 hi hz0' hz1' hz2' rfl (by decide) _ _ _ rfl (hown.alloc _) ⟨wr.heap.size, 0, none⟩ 1 1 [.int .i64 k] rfl rfl ?c1 ?c2 ?c3 ?c4 ?c5 ?_)
          case c1 =>
            intro j u hj
            match j, hj with
            | 0, hj => simp at hj; subst hj; simp [Addr.add]
          case c2 => intro u hu; simp at hu; subst hu; rfl
          case c3 => unfold maxLen; omega
          case c4 => omega
          case c5 => simp; omega
          intro v' w2 hown' hgrow _
          have hown2 : Hid (w2.ownsRow (w.heap.size + 1) 2 1 v' (ascK (fun i => t i == (i : Int)) (k + 1)).length ((ascK (fun i => t i == (i : Int)) (k + 1)).map (Value.int .i64))) := by
            refine Lib.hid ?_
            rw [ascK_succ, if_pos (by simp only [Hst.out])]; simpa using hown'
          have hb2 : Hid (Below (w.heap.size + 1) (w.alloc (.cells (mcells p t) 26)) w2) :=
            (Hb'.out.alloc (by omega) _).grown hgrow (by simp; omega) (fun b hbk => by
              rcases hown.2 with ⟨hv, _⟩ | ⟨g, cap, cur, hv, hg, _⟩
              · rw [hv] at hbk; cases hbk
              · rw [hv] at hbk; cases hbk; exact hg)
          clear hown' hgrow hown
          go_wp2_with fail
          go_roundw
          case rel => exact ⟨k + 1, by omega, by go_num, hown2.out, hb2.out⟩
          case measure => simp [intOf]; omega
      · have hfix := fix_asc (p := p) t k (by omega) (by omega)
        have HFIX := Lib.hid hfix
        have hown0 : Own wr (w.heap.size + 1) u4 (ascK (fun i => t i == (i : Int)) k) := hown
        rw [hfix] at hown0
        obtain ⟨a, cap, rfl, hrd⟩ := own_rd hown0 (asc_len _)
        have HO := Lib.hid hrd
        clear hb hown hown0 hrd hfix
        go_wp2_with fail
        go_ret2
        exact ⟨a, cap, rfl, HO.out.mono (by omega), bel_new Hb'.out (by omega)⟩

end Go.Proofs.Ythblbamiammodaa
