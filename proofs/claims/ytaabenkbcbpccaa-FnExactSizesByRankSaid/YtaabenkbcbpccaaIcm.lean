/- impl.compareMaps. -/
import Derived.Test.YtaabenkbcbpccaaScmp
import Derived.Test.YtaabenkbcbpccaaIcmp
import Derived.Test.YtaabenkbcbpccaaLess
import Derived.Test.YtaabenkbcbpccaaProd
import Derived.Deep.RegionHeld3
import Derived.Deep.DeepCutAuto
namespace Go.Proofs.Ytaabenkbcbpccaa
open Go.RowKit

theorem cmp_b (a b : Int) (w : World) :
    Calls Try.prog 80 #[.int .i64 a, .int .i64 b] w fun e w' => e = .returned (.int .i64 (sg a b)) ∧ Below w.heap.size w w' :=
  (cmp_any a b w).mono fun _ _ ⟨h, e⟩ => ⟨h, e ▸ Below.refl _ _⟩

theorem scmp_b (p q : Int) (t u : Nat → Int) (T g1 g2 : Nat) (w : World) (h1 : w.heap[g1]? = some (.cells (mcells p t) T (0, 0))) (h2 : w.heap[g2]? = some (.cells (mcells q u) T (0, 0))) :
    Calls Try.prog 81 #[.slice (some ⟨g1, 1, none⟩) 5 5, .slice (some ⟨g2, 1, none⟩) 5 5] w fun e w' => e = .returned (.int .i64 (cm t u 5)) ∧ Below w.heap.size w w' :=
  (scmp_any t u g1 g2 w (fun i hi => blk_at h1 i hi) (fun i hi => blk_at h2 i hi)).mono fun _ _ ⟨h, _, e⟩ => ⟨h, e ▸ below_drewN (Below.refl _ _) _⟩

def orV (x y : Int) : Int := if x = 0 then y else x

theorem or_b (x y : Int) (g T : Nat) (w : World) (h : w.heap[g]? = some (.cells #[.int .i64 x, .int .i64 y] T (0, 0))) :
    Calls Try.prog 79 #[.slice (some ⟨g, 0, none⟩) 2 2] w fun e w' => e = .returned (.int .i64 (orV x y)) ∧ Below w.heap.size w w' :=
  (or_any x y g w (Joins.cell_of_block h 0) (Joins.cell_of_block h 1)).mono fun _ _ ⟨h, e⟩ => ⟨h, e ▸ Below.refl _ _⟩

theorem or_c (x y : Int) (T : Nat) (w : World) :
    Calls Try.prog 79 #[.slice (some ⟨w.heap.size, 0, none⟩) 2 2] (w.alloc (.cells #[.int .i64 x, .int .i64 y] T)) fun e w' => e = .returned (.int .i64 (orV x y)) ∧ Below (w.alloc (.cells #[.int .i64 x, .int .i64 y] T)).heap.size (w.alloc (.cells #[.int .i64 x, .int .i64 y] T)) w' :=
  or_b x y w.heap.size T _ (halloc_at _ _ _ rfl)

theorem co_or {p q : Int} {f g : Nat → Int} (hf : isB p f = true) (hg : isB q g = true) : co p q f g = orV (sg p q) (cm f g 5) := by
  unfold co orV
  by_cases h : p = q
  · subst h
    have hp := isB_pts hf
    have hz : sg p p = 0 := by unfold sg; rw [if_neg (by omega), if_neg (by omega)]
    rw [if_pos rfl, if_pos hz]
    have h5 : ∀ n, p.toNat ≤ n → n ≤ 5 → cm f g n = cm f g p.toNat := by
      intro n
      induction n with
      | zero => intro h0 _; rw [show p.toNat = 0 by omega]
      | succ n ih =>
        intro h1 h2
        by_cases e : p.toNat = n + 1
        · rw [e]
        · conv => lhs; unfold cm
          rw [ih (by omega) (by omega)]
          by_cases c : cm f g p.toNat = 0
          · rw [if_pos c, c, ok_past hf n (by omega) (by omega), ok_past hg n (by omega) (by omega)]; rfl
          · rw [if_neg c]
    exact (h5 5 (by omega) (by omega)).symm
  · rw [if_neg h, if_neg (sg_ne h)]

set_option maxHeartbeats 1000000 in
theorem icm_any (p q : Int) (f g : Nat → Int) (w : World) :
    Calls Try.prog 65 #[mv p f, mv q g] w fun e w' => e = .returned (.int .i64 (orV (sg p q) (cm f g 5))) ∧ Below w.heap.size w w' := by
  have rf0 : ∀ x : World, x.heap[w.heap.size]? = some (.cells (mcells p f) 27 (0, 0)) → x.cell? ⟨w.heap.size, 0, none⟩ = some (.int .i64 p) := fun x h => (blk6 h).1
  have rf1 : ∀ x : World, x.heap[w.heap.size]? = some (.cells (mcells p f) 27 (0, 0)) → x.cell? ⟨w.heap.size, 1, none⟩ = some (.int .i64 (f 0)) := fun x h => (blk6 h).2.1
  have rf2 : ∀ x : World, x.heap[w.heap.size]? = some (.cells (mcells p f) 27 (0, 0)) → x.cell? ⟨w.heap.size, 2, none⟩ = some (.int .i64 (f 1)) := fun x h => (blk6 h).2.2.1
  have rf3 : ∀ x : World, x.heap[w.heap.size]? = some (.cells (mcells p f) 27 (0, 0)) → x.cell? ⟨w.heap.size, 3, none⟩ = some (.int .i64 (f 2)) := fun x h => (blk6 h).2.2.2.1
  have rf4 : ∀ x : World, x.heap[w.heap.size]? = some (.cells (mcells p f) 27 (0, 0)) → x.cell? ⟨w.heap.size, 4, none⟩ = some (.int .i64 (f 3)) := fun x h => (blk6 h).2.2.2.2.1
  have rf5 : ∀ x : World, x.heap[w.heap.size]? = some (.cells (mcells p f) 27 (0, 0)) → x.cell? ⟨w.heap.size, 5, none⟩ = some (.int .i64 (f 4)) := fun x h => (blk6 h).2.2.2.2.2
  have rg0 : ∀ x : World, x.heap[w.heap.size + 1]? = some (.cells (mcells q g) 27 (0, 0)) → x.cell? ⟨w.heap.size + 1, 0, none⟩ = some (.int .i64 q) := fun x h => (blk6 h).1
  have rg1 : ∀ x : World, x.heap[w.heap.size + 1]? = some (.cells (mcells q g) 27 (0, 0)) → x.cell? ⟨w.heap.size + 1, 1, none⟩ = some (.int .i64 (g 0)) := fun x h => (blk6 h).2.1
  have rg2 : ∀ x : World, x.heap[w.heap.size + 1]? = some (.cells (mcells q g) 27 (0, 0)) → x.cell? ⟨w.heap.size + 1, 2, none⟩ = some (.int .i64 (g 1)) := fun x h => (blk6 h).2.2.1
  have rg3 : ∀ x : World, x.heap[w.heap.size + 1]? = some (.cells (mcells q g) 27 (0, 0)) → x.cell? ⟨w.heap.size + 1, 3, none⟩ = some (.int .i64 (g 2)) := fun x h => (blk6 h).2.2.2.1
  have rg4 : ∀ x : World, x.heap[w.heap.size + 1]? = some (.cells (mcells q g) 27 (0, 0)) → x.cell? ⟨w.heap.size + 1, 4, none⟩ = some (.int .i64 (g 3)) := fun x h => (blk6 h).2.2.2.2.1
  have rg5 : ∀ x : World, x.heap[w.heap.size + 1]? = some (.cells (mcells q g) 27 (0, 0)) → x.cell? ⟨w.heap.size + 1, 5, none⟩ = some (.int .i64 (g 4)) := fun x h => (blk6 h).2.2.2.2.2
  simp only [mv, mcells] at *
  go_enter Try.func65, Try.ntmps65
  go_upto_region 1 with fail
  go_region_held3 (fun w' => w'.heap[w.heap.size]? = some (.cells (mcells p f) 27 (0, 0)) ∧ w'.heap[w.heap.size + 1]? = some (.cells (mcells q g) 27 (0, 0))) (first | ((try dsimp only); (try go_split_ands); (repeat' apply And.intro) <;> ((repeat' (first | omega | (rw [hdrew]) | (with_reducible assumption) | (with_reducible exact Hid.out (by assumption)) | (with_reducible rfl) | ((with_reducible refine halloc_at _ _ _ ?_) <;> (first | (with_reducible rfl) | omega | (simp; done))) | (with_reducible refine chain6 ?_) | (with_reducible refine Eq.trans (hset_ne _ _ _ _ ?_) ?_) | (with_reducible refine Eq.trans (halloc_lt _ _ _ ?_) ?_) | (with_reducible refine Eq.trans (Below.block (Hid.out (by assumption)) _ ?_) ?_) | (simp; done) | (simp; omega))); done)))
      (first
        | (go_at_call 80; (with_reducible refine (cmp_b p q _).mono ?_); rintro e w1 ⟨rfl, hb⟩; skip; obtain ⟨hc, hf⟩ := bcell hb; have hz := hb.size; have Hb := Lib.hid hb; (try simp at hz hc hf); (try (have hy := Nat.lt_of_succ_le hz)); have hz0 : w.heap.size < w1.heap.size := (by omega); have hz1 : w.heap.size + 1 < w1.heap.size := (by omega); (try (have hz2 : w.heap.size + 1 + 1 < w1.heap.size := (by omega))); clear hb)
        | (go_at_call 81; (with_reducible refine (scmp_b p q f g 27 _ _ _ (by (repeat' (first | omega | (rw [hdrew]) | (with_reducible assumption) | (with_reducible exact Hid.out (by assumption)) | (with_reducible rfl) | ((with_reducible refine halloc_at _ _ _ ?_) <;> (first | (with_reducible rfl) | omega | (simp; done))) | (with_reducible refine chain6 ?_) | (with_reducible refine Eq.trans (hset_ne _ _ _ _ ?_) ?_) | (with_reducible refine Eq.trans (halloc_lt _ _ _ ?_) ?_) | (with_reducible refine Eq.trans (Below.block (Hid.out (by assumption)) _ ?_) ?_) | (simp; done) | (simp; omega)))) (by (repeat' (first | omega | (rw [hdrew]) | (with_reducible assumption) | (with_reducible exact Hid.out (by assumption)) | (with_reducible rfl) | ((with_reducible refine halloc_at _ _ _ ?_) <;> (first | (with_reducible rfl) | omega | (simp; done))) | (with_reducible refine chain6 ?_) | (with_reducible refine Eq.trans (hset_ne _ _ _ _ ?_) ?_) | (with_reducible refine Eq.trans (halloc_lt _ _ _ ?_) ?_) | (with_reducible refine Eq.trans (Below.block (Hid.out (by assumption)) _ ?_) ?_) | (simp; done) | (simp; omega))))).mono ?_); rintro e w1 ⟨rfl, hb⟩; skip; obtain ⟨hc, hf⟩ := bcell hb; have hz := hb.size; have Hb := Lib.hid hb; (try simp at hz hc hf); (try (have hy := Nat.lt_of_succ_le hz)); have hz0 : w.heap.size < w1.heap.size := (by omega); have hz1 : w.heap.size + 1 < w1.heap.size := (by omega); (try (have hz2 : w.heap.size + 1 + 1 < w1.heap.size := (by omega))); clear hb)
        | (go_at_call 79; (with_reducible refine (or_c (sg p q) (cm f g 5) _ _).mono ?_); rintro e w1 ⟨rfl, hb⟩; skip; obtain ⟨hc, hf⟩ := bcell hb; have hz := hb.size; have Hb := Lib.hid hb; (try simp at hz hc hf); (try (have hy := Nat.lt_of_succ_le hz)); have hz0 : w.heap.size < w1.heap.size := (by omega); have hz1 : w.heap.size + 1 < w1.heap.size := (by omega); (try (have hz2 : w.heap.size + 1 + 1 < w1.heap.size := (by omega))); clear hb))
  all_goals (go_wp2_with fail)
  all_goals go_ret
  all_goals refine ⟨rfl, ?_⟩
  all_goals (repeat' (first | (with_reducible exact Below.refl _ _) | (with_reducible refine Below.alloc ?_ ?_ _) | (with_reducible refine Below.setCell ?_ ?_ _) | (with_reducible refine Below.drew ?_) | (with_reducible refine below_drewN ?_ _) | (with_reducible refine Below.trans ?_ (Below.mono (Hid.out (by assumption)) ?_)) | omega | (simp; done) | (simp; omega)))
end Go.Proofs.Ytaabenkbcbpccaa
