/- Comparing: the plain order of maps, and the contracts of cmp.isNaN, cmp.Compare, cmp.Or, slices.Compare at two rows of five and spec.l01Less. spec.l01Less. slices.Compare at two rows of five. cmp.Or at two numbers. impl.compareMaps. -/
import Derived.Test.YtiogagaclhjdaaaSl
import Derived.Test.YtiogagaclhjdaaaBase
import Derived.Test.YtiogagaclhjdaaaProd
import Derived.Deep.RegionHeld3
import Derived.Deep.DeepCutAuto
namespace Go.Proofs.Ytiogagaclhjdaaa
open Go.RowKit

/-- The order of two numbers. -/
def sg (a b : Int) : Int := if a < b then -1 else if b < a then 1 else 0

/-- The order of the first n images. -/
def cm (t u : Nat → Int) : Nat → Int
  | 0 => 0
  | n + 1 => if cm t u n = 0 then sg (t n) (u n) else cm t u n

theorem cm_same (t u : Nat → Int) : ∀ n, (∀ j, j < n → t j = u j) → cm t u n = 0
  | 0, _ => rfl
  | n + 1, h => by
    unfold cm
    rw [if_pos (cm_same t u n (fun j hj => h j (by omega))), h n (by omega)]
    unfold sg
    rw [if_neg (by omega), if_neg (by omega)]

theorem sg_ne {a b : Int} (h : a ≠ b) : sg a b ≠ 0 := by
  unfold sg; split <;> (try split) <;> omega

theorem cm_first (t u : Nat → Int) (k : Nat) (h : ∀ j, j < k → t j = u j) (hk : t k ≠ u k) : ∀ n, k < n → cm t u n = sg (t k) (u k)
  | 0, hn => by omega
  | n + 1, hn => by
    unfold cm
    by_cases e : k = n
    · subst e; rw [if_pos (cm_same t u k h)]
    · have := cm_first t u k h hk n (by omega)
      rw [this, if_neg (sg_ne hk)]

theorem sg_flip (a b : Int) : sg b a = - sg a b := by
  unfold sg; split <;> split <;> (try split) <;> omega

theorem cm_flip (t u : Nat → Int) : ∀ n, cm u t n = - cm t u n
  | 0 => rfl
  | n + 1 => by
    have := cm_flip t u n
    unfold cm
    by_cases h : cm t u n = 0
    · rw [if_pos (by omega), if_pos h, sg_flip]
    · rw [if_neg (by omega), if_neg h, this]

theorem cm_more (t u : Nat → Int) (k : Nat) (h : ∀ j, k ≤ j → t j = u j) : ∀ n, k ≤ n → cm t u n = cm t u k
  | 0, hk => by rw [show k = 0 by omega]
  | n + 1, hk => by
    by_cases e : k = n + 1
    · rw [e]
    · conv => lhs; unfold cm
      rw [cm_more t u k h n (by omega)]
      by_cases c : cm t u k = 0
      · rw [if_pos c, c, h n (by omega)]; unfold sg; rw [if_neg (by omega), if_neg (by omega)]
      · rw [if_neg c]

/-- The order of two maps. -/
def co (p q : Int) (t u : Nat → Int) : Int := if p = q then cm t u p.toNat else sg p q

theorem co_flip (p q : Int) (t u : Nat → Int) : co q p u t = - co p q t u := by
  unfold co
  by_cases h : p = q
  · rw [if_pos h, if_pos h.symm, h, cm_flip]
  · rw [if_neg h, if_neg (Ne.symm h), sg_flip]

theorem isNaN_any (a : Int) (w : World) :
    Calls Try.prog 123 #[.int .i64 a] w fun e w' => e = .returned (.bool false) ∧ w' = w := by
  go_enter Try.func123, Try.ntmps123
  go_wp2_with fail
  go_ret
  exact ⟨by simp, rfl⟩

theorem cmp_any (a b : Int) (w : World) :
    Calls Try.prog 102 #[.int .i64 a, .int .i64 b] w fun e w' => e = .returned (.int .i64 (sg a b)) ∧ w' = w := by
  have h1 := isNaN_any a w
  have h2 := isNaN_any b w
  by_cases ha : a < b
  · have e : sg a b = -1 := by unfold sg; rw [if_pos ha]
    rw [e]; clear e
    go_enter Try.func102, Try.ntmps102
    go_wp2_with fail
    go_at_call 123; refine h1.mono ?_; rintro e w' ⟨rfl, rfl⟩
    go_wp2_with fail
    go_at_call 123; refine h2.mono ?_; rintro e w' ⟨rfl, rfl⟩
    go_wp2_with fail
    go_ret
    exact ⟨rfl, rfl⟩
  · by_cases hb : b < a
    · have e : sg a b = 1 := by unfold sg; rw [if_neg ha, if_pos hb]
      rw [e]; clear e
      go_enter Try.func102, Try.ntmps102
      go_wp2_with fail
      go_at_call 123; refine h1.mono ?_; rintro e w' ⟨rfl, rfl⟩
      go_wp2_with fail
      go_at_call 123; refine h2.mono ?_; rintro e w' ⟨rfl, rfl⟩
      go_wp2_with fail
      go_ret
      exact ⟨rfl, rfl⟩
    · have e : sg a b = 0 := by unfold sg; rw [if_neg ha, if_neg hb]
      rw [e]; clear e
      go_enter Try.func102, Try.ntmps102
      go_wp2_with fail
      go_at_call 123; refine h1.mono ?_; rintro e w' ⟨rfl, rfl⟩
      go_wp2_with fail
      go_at_call 123; refine h2.mono ?_; rintro e w' ⟨rfl, rfl⟩
      go_wp2_with fail
      go_ret
      exact ⟨rfl, rfl⟩

end Go.Proofs.Ytiogagaclhjdaaa

namespace Go.Proofs.Ytiogagaclhjdaaa
open Go.RowKit

theorem sg_lt (a b : Int) : decide (sg a b = -1) = decide (a < b) := by
  unfold sg; congr 1; apply propext; split <;> (try split) <;> constructor <;> intro h <;> omega

set_option maxHeartbeats 1000000 in
theorem less_any (p q : Int) (t u : Nat → Int) (hp : 1 ≤ p ∧ p ≤ 5) (w : World) :
    Calls Try.prog 94 #[mv p t, mv q u] w fun e w' => e = .returned (.bool (decide (co p q t u = -1))) ∧ Below w.heap.size w w' := by
  by_cases hpq : p = q
  · subst hpq
    obtain ⟨hp1, hp5⟩ := hp
    unfold co
    rw [if_pos rfl]
    simp only [mv, mcells]
    go_enter Try.func94, Try.ntmps94
    go_wp2_with fail
    go_loopw [5] (fun i wr => ∃ (k : Nat), (k : Int) ≤ p ∧ i = .int .i64 k ∧ (∀ j, j < k → t j = u j) ∧ Below (w.heap.size + 2) ((w.alloc (.cells (mcells p t) 31)).alloc (.cells (mcells p u) 31)) wr) (fun i _ => 5 - (intOf i).toNat)
    case atStart => exact ⟨0, by omega, rfl, by omega, Below.refl _ _⟩
    case round =>
      obtain ⟨k, hk, rfl, hs, hb⟩ := hrel
      have b1 : wr.heap[w.heap.size]? = some (.cells (mcells p t) 31 (0, 0)) := (hb.block _ (by omega)).trans ((halloc_lt _ _ _ (by simp)).trans (halloc_at _ _ _ rfl))
      have b2 : wr.heap[w.heap.size + 1]? = some (.cells (mcells p u) 31 (0, 0)) := (hb.block _ (by omega)).trans (halloc_at _ _ _ (by simp))
      have hc0 := (blk6 b1).1
      have Hb : Hid (Below w.heap.size w wr) := Lib.hid (bel_new (bel_new hb (by simp)) (by simp))
      have H0 := Lib.hid hb
      clear hb
      by_cases hkp : (k : Int) < p
      · have hk5 : k < 5 := by omega
        have hk5' : (k : Int) < 5 := by omega
        have hc1 := blk_at b1 k hk5
        have hc2 := blk_at b2 k hk5
        clear b1 b2
        by_cases he : t k = u k
        · have HS := Lib.hid hs
          have HE := Lib.hid he
          rw [← he] at hc2
          clear hs he
          go_wp2_with fail
          go_quiet (fail)
          go_wp2_with fail
          go_roundw
          case rel => exact ⟨k + 1, by omega, by go_num, fun j hj => by rcases Nat.lt_succ_iff_lt_or_eq.1 hj with h | h; exact HS.out j h; subst h; exact HE.out, below_drewN H0.out _⟩
          case measure => simp [intOf]; omega
        · have hne : (t k != u k) = true := by simp [he]
          have HF : Hid (decide (cm t u p.toNat = -1) = decide (t k < u k)) := Lib.hid (by rw [cm_first t u k hs he p.toNat (by omega), sg_lt])
          clear hs he
          go_wp2_with fail
          go_quiet (fail)
          go_wp2_with fail
          go_quiet (fail)
          go_wp2_with fail
          go_ret
          exact ⟨ret_b HF.out.symm, below_drewN (below_drewN Hb.out _) _⟩
      · have HF : Hid (decide (cm t u p.toNat = -1) = false) := Lib.hid (by rw [cm_same t u p.toNat (fun j hj => hs j (by omega))]; rfl)
        clear hs b1 b2
        go_wp2_with fail
        go_ret
        exact ⟨ret_b HF.out.symm, Hb.out⟩
  · unfold co
    rw [if_neg hpq, sg_lt]
    have hpq' : (p != q) = true := by simp [hpq]
    simp only [mv, mcells]
    go_enter Try.func94, Try.ntmps94
    go_wp2_with fail
    go_ret
    refine ⟨rfl, ?_⟩
    (repeat' (first | (with_reducible exact Below.refl _ _) | (with_reducible refine Below.alloc ?_ ?_ _) | (with_reducible refine Below.setCell ?_ ?_ _) | (with_reducible refine Below.drew ?_) | (with_reducible refine below_drewN ?_ _) | (with_reducible refine Below.trans ?_ (Below.mono (Hid.out (by assumption)) ?_)) | omega | (simp; done) | (simp; omega)))

end Go.Proofs.Ytiogagaclhjdaaa

namespace Go.Proofs.Ytiogagaclhjdaaa
open Go.RowKit

set_option maxHeartbeats 1000000 in
theorem scmp_any (t u : Nat → Int) (g1 g2 : Nat) (w : World) (h1 : ∀ i, i < 5 → w.cell? ⟨g1, 1 + i, none⟩ = some (.int .i64 (t i))) (h2 : ∀ i, i < 5 → w.cell? ⟨g2, 1 + i, none⟩ = some (.int .i64 (u i))) :
    Calls Try.prog 103 #[.slice (some ⟨g1, 1, none⟩) 5 5, .slice (some ⟨g2, 1, none⟩) 5 5] w fun e w' => e = .returned (.int .i64 (cm t u 5)) ∧ ∃ m, w' = w.drewN m := by
  have HC1 := Lib.hid h1
  have HC2 := Lib.hid h2
  clear h1 h2
  go_enter Try.func103, Try.ntmps103
  go_wp2_with fail
  go_loopw [11] (fun i wr => ∃ k : Nat, k ≤ 5 ∧ i = .int .i64 k ∧ (∀ j, j < k → t j = u j) ∧ wr = w) (fun i _ => 5 - (intOf i).toNat)
  case atStart => exact ⟨0, by omega, rfl, by omega, rfl⟩
  case round =>
    obtain ⟨k, hk, rfl, hs, rfl⟩ := hrel
    by_cases hkl : k < 5
    · have hkl' : (k : Int) < 5 := by omega
      have e1 := HC1.out k hkl
      have e2 := HC2.out k hkl
      have hc := cmp_any (t k) (u k) wr
      by_cases he : t k = u k
      · have hz : sg (t k) (u k) = 0 := by rw [he]; unfold sg; rw [if_neg (by omega), if_neg (by omega)]
        rw [hz] at hc
        have HS := Lib.hid hs
        have HE := Lib.hid he
        clear he hz hs
        go_wp2_with (go_at_call 102; refine hc.mono ?_; rintro e w' ⟨rfl, rfl⟩)
        go_roundw
        case rel => exact ⟨k + 1, by omega, by go_num, fun j hj => by rcases Nat.lt_succ_iff_lt_or_eq.1 hj with h | h; exact HS.out j h; subst h; exact HE.out, trivial⟩
        case measure => simp [intOf]; omega
      · have hz := sg_ne he
        have HF := Lib.hid (cm_first t u k hs he 5 hkl)
        clear hs he
        generalize sg (t k) (u k) = X at *
        go_wp2_with (go_at_call 102; refine hc.mono ?_; rintro e w' ⟨rfl, rfl⟩)
        go_ret
        exact ⟨ret_i HF.out.symm, 0, rfl⟩
    · have HF := Lib.hid (cm_same t u 5 (fun j hj => hs j (by omega)))
      clear hs
      go_wp2_with fail
      go_ret
      exact ⟨ret_i HF.out.symm, 0, rfl⟩

end Go.Proofs.Ytiogagaclhjdaaa

namespace Go.Proofs.Ytiogagaclhjdaaa
open Go.RowKit

set_option maxHeartbeats 1000000 in
theorem or_any (x y : Int) (g : Nat) (w : World) (h0 : w.cell? ⟨g, 0, none⟩ = some (.int .i64 x)) (h1 : w.cell? ⟨g, 1, none⟩ = some (.int .i64 y)) :
    Calls Try.prog 101 #[.slice (some ⟨g, 0, none⟩) 2 2] w fun e w' => e = .returned (.int .i64 (if x = 0 then y else x)) ∧ w' = w := by
  by_cases hx : x = 0
  · rw [if_pos hx]
    subst hx
    by_cases hy : y = 0
    · subst hy
      go_enter Try.func101, Try.ntmps101
      go_wp2_with fail
      refine wp_loop_rounds 3 ?_
      iterate 2 (rw [rounds_succ]; go_wp2_with fail)
      rw [rounds_succ]
      go_wp2_with fail
      go_ret
      exact ⟨rfl, rfl⟩
    · go_enter Try.func101, Try.ntmps101
      go_wp2_with fail
      refine wp_loop_rounds 3 ?_
      iterate 2 (rw [rounds_succ]; go_wp2_with fail)
      go_ret
      exact ⟨rfl, rfl⟩
  · rw [if_neg hx]
    go_enter Try.func101, Try.ntmps101
    go_wp2_with fail
    refine wp_loop_rounds 3 ?_
    rw [rounds_succ]
    go_wp2_with fail
    go_ret
    exact ⟨rfl, rfl⟩

end Go.Proofs.Ytiogagaclhjdaaa

namespace Go.Proofs.Ytiogagaclhjdaaa
open Go.RowKit

theorem cmp_b (a b : Int) (w : World) :
    Calls Try.prog 102 #[.int .i64 a, .int .i64 b] w fun e w' => e = .returned (.int .i64 (sg a b)) ∧ Below w.heap.size w w' :=
  (cmp_any a b w).mono fun _ _ ⟨h, e⟩ => ⟨h, e ▸ Below.refl _ _⟩

theorem scmp_b (p q : Int) (t u : Nat → Int) (T g1 g2 : Nat) (w : World) (h1 : w.heap[g1]? = some (.cells (mcells p t) T (0, 0))) (h2 : w.heap[g2]? = some (.cells (mcells q u) T (0, 0))) :
    Calls Try.prog 103 #[.slice (some ⟨g1, 1, none⟩) 5 5, .slice (some ⟨g2, 1, none⟩) 5 5] w fun e w' => e = .returned (.int .i64 (cm t u 5)) ∧ Below w.heap.size w w' :=
  (scmp_any t u g1 g2 w (fun i hi => blk_at h1 i hi) (fun i hi => blk_at h2 i hi)).mono fun _ _ ⟨h, _, e⟩ => ⟨h, e ▸ below_drewN (Below.refl _ _) _⟩

def orV (x y : Int) : Int := if x = 0 then y else x

theorem or_b (x y : Int) (g T : Nat) (w : World) (h : w.heap[g]? = some (.cells #[.int .i64 x, .int .i64 y] T (0, 0))) :
    Calls Try.prog 101 #[.slice (some ⟨g, 0, none⟩) 2 2] w fun e w' => e = .returned (.int .i64 (orV x y)) ∧ Below w.heap.size w w' :=
  (or_any x y g w (Joins.cell_of_block h 0) (Joins.cell_of_block h 1)).mono fun _ _ ⟨h, e⟩ => ⟨h, e ▸ Below.refl _ _⟩

theorem or_c (x y : Int) (T : Nat) (w : World) :
    Calls Try.prog 101 #[.slice (some ⟨w.heap.size, 0, none⟩) 2 2] (w.alloc (.cells #[.int .i64 x, .int .i64 y] T)) fun e w' => e = .returned (.int .i64 (orV x y)) ∧ Below (w.alloc (.cells #[.int .i64 x, .int .i64 y] T)).heap.size (w.alloc (.cells #[.int .i64 x, .int .i64 y] T)) w' :=
  or_b x y w.heap.size T _ (halloc_at _ _ _ rfl)

theorem co_or {p q : Int} {f g : Nat → Int} (hf : isB p f = true) (hg : isB q g = true) : co p q f g = orV (sg p q) (cm f g 5) := by
  unfold co orV
  by_cases h : p = q
  · subst h
    have hp := isB_pts hf
    have hz : sg p p = 0 := by unfold sg; rw [if_neg (by omega), if_neg (by omega)]
    rw [if_pos rfl, if_pos hz]
    have h5 : ∀ n, p.toNat ≤ n → n ≤ 5 → cm f g n = cm f g p.toNat := by
      intro n
      induction n with
      | zero => intro h0 _; rw [show p.toNat = 0 by omega]
      | succ n ih =>
        intro h1 h2
        by_cases e : p.toNat = n + 1
        · rw [e]
        · conv => lhs; unfold cm
          rw [ih (by omega) (by omega)]
          by_cases c : cm f g p.toNat = 0
          · rw [if_pos c, c, ok_past hf n (by omega) (by omega), ok_past hg n (by omega) (by omega)]; rfl
          · rw [if_neg c]
    exact (h5 5 (by omega) (by omega)).symm
  · rw [if_neg h, if_neg (sg_ne h)]

set_option maxHeartbeats 1000000 in
theorem icm_any (p q : Int) (f g : Nat → Int) (w : World) :
    Calls Try.prog 80 #[mv p f, mv q g] w fun e w' => e = .returned (.int .i64 (orV (sg p q) (cm f g 5))) ∧ Below w.heap.size w w' := by
  have rf0 : ∀ x : World, x.heap[w.heap.size]? = some (.cells (mcells p f) 31 (0, 0)) → x.cell? ⟨w.heap.size, 0, none⟩ = some (.int .i64 p) := fun x h => (blk6 h).1
  have rf1 : ∀ x : World, x.heap[w.heap.size]? = some (.cells (mcells p f) 31 (0, 0)) → x.cell? ⟨w.heap.size, 1, none⟩ = some (.int .i64 (f 0)) := fun x h => (blk6 h).2.1
  have rf2 : ∀ x : World, x.heap[w.heap.size]? = some (.cells (mcells p f) 31 (0, 0)) → x.cell? ⟨w.heap.size, 2, none⟩ = some (.int .i64 (f 1)) := fun x h => (blk6 h).2.2.1
  have rf3 : ∀ x : World, x.heap[w.heap.size]? = some (.cells (mcells p f) 31 (0, 0)) → x.cell? ⟨w.heap.size, 3, none⟩ = some (.int .i64 (f 2)) := fun x h => (blk6 h).2.2.2.1
  have rf4 : ∀ x : World, x.heap[w.heap.size]? = some (.cells (mcells p f) 31 (0, 0)) → x.cell? ⟨w.heap.size, 4, none⟩ = some (.int .i64 (f 3)) := fun x h => (blk6 h).2.2.2.2.1
  have rf5 : ∀ x : World, x.heap[w.heap.size]? = some (.cells (mcells p f) 31 (0, 0)) → x.cell? ⟨w.heap.size, 5, none⟩ = some (.int .i64 (f 4)) := fun x h => (blk6 h).2.2.2.2.2
  have rg0 : ∀ x : World, x.heap[w.heap.size + 1]? = some (.cells (mcells q g) 31 (0, 0)) → x.cell? ⟨w.heap.size + 1, 0, none⟩ = some (.int .i64 q) := fun x h => (blk6 h).1
  have rg1 : ∀ x : World, x.heap[w.heap.size + 1]? = some (.cells (mcells q g) 31 (0, 0)) → x.cell? ⟨w.heap.size + 1, 1, none⟩ = some (.int .i64 (g 0)) := fun x h => (blk6 h).2.1
  have rg2 : ∀ x : World, x.heap[w.heap.size + 1]? = some (.cells (mcells q g) 31 (0, 0)) → x.cell? ⟨w.heap.size + 1, 2, none⟩ = some (.int .i64 (g 1)) := fun x h => (blk6 h).2.2.1
  have rg3 : ∀ x : World, x.heap[w.heap.size + 1]? = some (.cells (mcells q g) 31 (0, 0)) → x.cell? ⟨w.heap.size + 1, 3, none⟩ = some (.int .i64 (g 2)) := fun x h => (blk6 h).2.2.2.1
  have rg4 : ∀ x : World, x.heap[w.heap.size + 1]? = some (.cells (mcells q g) 31 (0, 0)) → x.cell? ⟨w.heap.size + 1, 4, none⟩ = some (.int .i64 (g 3)) := fun x h => (blk6 h).2.2.2.2.1
  have rg5 : ∀ x : World, x.heap[w.heap.size + 1]? = some (.cells (mcells q g) 31 (0, 0)) → x.cell? ⟨w.heap.size + 1, 5, none⟩ = some (.int .i64 (g 4)) := fun x h => (blk6 h).2.2.2.2.2
  simp only [mv, mcells] at *
  go_enter Try.func80, Try.ntmps80
  go_upto_region 1 with fail
  go_region_held3 (fun w' => w'.heap[w.heap.size]? = some (.cells (mcells p f) 31 (0, 0)) ∧ w'.heap[w.heap.size + 1]? = some (.cells (mcells q g) 31 (0, 0))) (first | ((try dsimp only); (try go_split_ands); (repeat' apply And.intro) <;> ((repeat' (first | omega | (rw [hdrew]) | (with_reducible assumption) | (with_reducible exact Hid.out (by assumption)) | (with_reducible rfl) | ((with_reducible refine halloc_at _ _ _ ?_) <;> (first | (with_reducible rfl) | omega | (simp; done))) | (with_reducible refine chain6 ?_) | (with_reducible refine Eq.trans (hset_ne _ _ _ _ ?_) ?_) | (with_reducible refine Eq.trans (halloc_lt _ _ _ ?_) ?_) | (with_reducible refine Eq.trans (Below.block (Hid.out (by assumption)) _ ?_) ?_) | (simp; done) | (simp; omega))); done)))
      (first
        | (go_at_call 102; (with_reducible refine (cmp_b p q _).mono ?_); rintro e w1 ⟨rfl, hb⟩; skip; obtain ⟨hc, hf⟩ := bcell hb; have hz := hb.size; have Hb := Lib.hid hb; (try simp at hz hc hf); (try (have hy := Nat.lt_of_succ_le hz)); have hz0 : w.heap.size < w1.heap.size := (by omega); have hz1 : w.heap.size + 1 < w1.heap.size := (by omega); (try (have hz2 : w.heap.size + 1 + 1 < w1.heap.size := (by omega))); clear hb)
        | (go_at_call 103; (with_reducible refine (scmp_b p q f g 31 _ _ _ (by (repeat' (first | omega | (rw [hdrew]) | (with_reducible assumption) | (with_reducible exact Hid.out (by assumption)) | (with_reducible rfl) | ((with_reducible refine halloc_at _ _ _ ?_) <;> (first | (with_reducible rfl) | omega | (simp; done))) | (with_reducible refine chain6 ?_) | (with_reducible refine Eq.trans (hset_ne _ _ _ _ ?_) ?_) | (with_reducible refine Eq.trans (halloc_lt _ _ _ ?_) ?_) | (with_reducible refine Eq.trans (Below.block (Hid.out (by assumption)) _ ?_) ?_) | (simp; done) | (simp; omega)))) (by (repeat' (first | omega | (rw [hdrew]) | (with_reducible assumption) | (with_reducible exact Hid.out (by assumption)) | (with_reducible rfl) | ((with_reducible refine halloc_at _ _ _ ?_) <;> (first | (with_reducible rfl) | omega | (simp; done))) | (with_reducible refine chain6 ?_) | (with_reducible refine Eq.trans (hset_ne _ _ _ _ ?_) ?_) | (with_reducible refine Eq.trans (halloc_lt _ _ _ ?_) ?_) | (with_reducible refine Eq.trans (Below.block (Hid.out (by assumption)) _ ?_) ?_) | (simp; done) | (simp; omega))))).mono ?_); rintro e w1 ⟨rfl, hb⟩; skip; obtain ⟨hc, hf⟩ := bcell hb; have hz := hb.size; have Hb := Lib.hid hb; (try simp at hz hc hf); (try (have hy := Nat.lt_of_succ_le hz)); have hz0 : w.heap.size < w1.heap.size := (by omega); have hz1 : w.heap.size + 1 < w1.heap.size := (by omega); (try (have hz2 : w.heap.size + 1 + 1 < w1.heap.size := (by omega))); clear hb)
        | (go_at_call 101; (with_reducible refine (or_c (sg p q) (cm f g 5) _ _).mono ?_); rintro e w1 ⟨rfl, hb⟩; skip; obtain ⟨hc, hf⟩ := bcell hb; have hz := hb.size; have Hb := Lib.hid hb; (try simp at hz hc hf); (try (have hy := Nat.lt_of_succ_le hz)); have hz0 : w.heap.size < w1.heap.size := (by omega); have hz1 : w.heap.size + 1 < w1.heap.size := (by omega); (try (have hz2 : w.heap.size + 1 + 1 < w1.heap.size := (by omega))); clear hb))
  all_goals (go_wp2_with fail)
  all_goals go_ret
  all_goals refine ⟨rfl, ?_⟩
  all_goals (repeat' (first | (with_reducible exact Below.refl _ _) | (with_reducible refine Below.alloc ?_ ?_ _) | (with_reducible refine Below.setCell ?_ ?_ _) | (with_reducible refine Below.drew ?_) | (with_reducible refine below_drewN ?_ _) | (with_reducible refine Below.trans ?_ (Below.mono (Hid.out (by assumption)) ?_)) | omega | (simp; done) | (simp; omega)))

end Go.Proofs.Ytiogagaclhjdaaa
