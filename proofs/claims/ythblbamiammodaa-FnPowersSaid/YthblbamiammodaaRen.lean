/- Renumbered maps: the contracts of spec.l01Renamed, spec.RenumberMap and impl.RenumberMap. -/
import Derived.Test.YthblbamiammodaaInv
import Derived.Test.YthblbamiammodaaProd
import Derived.Test.YthblbamiammodaaPowm
namespace Go.Proofs.Ythblbamiammodaa
open Go.RowKit

/-- A map renumbered as the loop does it. -/
def renK (f q : Nat → Int) : Nat → (Nat → Int)
  | 0 => fun _ => 0
  | k + 1 => upd (renK f q k) (q k).toNat (q (f k).toNat)

def renm (p : Int) (f q : Nat → Int) : Nat → Int := renK f q p.toNat

theorem ascK_full (b : Nat → Bool) : ∀ n, (ascK b n).length = n → ∀ i, i < n → b i = true
  | 0, _, i, hi => by omega
  | n + 1, h, i, hi => by
    have hl := ascK_len b n
    rw [ascK_succ] at h
    by_cases hb : b n = true
    · rw [if_pos hb, List.length_append] at h
      simp at h
      by_cases e : i = n
      · rw [e]; exact hb
      · exact ascK_full b n h i (by omega)
    · rw [if_neg hb] at h; omega

theorem ascK_cut' (b : Nat → Bool) (k : Nat) : ∀ n, k ≤ n → (∀ i, k ≤ i → i < n → b i = false) → ascK b n = ascK b k
  | 0, hk, _ => by rw [show k = 0 by omega]
  | n + 1, hk, hb => by
    by_cases h : k = n + 1
    · rw [h]
    · rw [ascK_succ, if_neg (by rw [hb n (by omega) (by omega)]; exact Bool.false_ne_true)]
      exact ascK_cut' b k n (by omega) (fun i h1 h2 => hb i h1 (by omega))

theorem perm_hit {p : Int} {q : Nat → Int} (hq : isB p q = true) (h : permB p q = true) (j : Nat) (hj : (j : Int) < p) : ∃ i, i < p.toNat ∧ (q i).toNat = j := by
  have hp := isB_pts hq
  have hlen : (asc (imgB p q)).length = p.toNat := by unfold permB at h; simp at h; omega
  unfold asc at hlen
  rw [ascK_cut' (imgB p q) p.toNat 5 (by omega) (fun i h1 _ => by
    unfold imgB imgK
    rw [List.any_eq_false]
    intro x hx
    simp at hx
    have := ok_at hq x (by omega)
    simp; omega)] at hlen
  have := ascK_full (imgB p q) p.toNat hlen j (by omega)
  unfold imgB imgK at this
  rw [List.any_eq_true] at this
  obtain ⟨i, hi, he⟩ := this
  simp at hi he
  exact ⟨i, by omega, by omega⟩

theorem ren_at (f q : Nat → Int) (j : Nat) : ∀ k, (∃ i, i < k ∧ (q i).toNat = j) → ∃ i, i < k ∧ invK q k j = (i : Int) ∧ renK f q k j = q (f i).toNat
  | 0, h => by obtain ⟨i, hi, _⟩ := h; omega
  | k + 1, h => by
    unfold invK renK upd
    by_cases e : j = (q k).toNat
    · rw [if_pos e, if_pos e]; exact ⟨k, by omega, rfl, rfl⟩
    · rw [if_neg e, if_neg e]
      obtain ⟨i, hi, hij⟩ := h
      have hik : i ≠ k := fun c => e (by rw [← hij, c])
      obtain ⟨i', h1, h2, h3⟩ := ren_at f q j k ⟨i, by omega, hij⟩
      exact ⟨i', by omega, h2, h3⟩

theorem ren_out (f q : Nat → Int) (j : Nat) : ∀ k, (∀ i, i < k → (q i).toNat ≠ j) → renK f q k j = 0
  | 0, _ => rfl
  | k + 1, h => by
    unfold renK upd
    rw [if_neg (fun e => h k (by omega) e.symm)]
    exact ren_out f q j k (fun i hi => h i (by omega))

theorem ren_eq {p : Int} {f q : Nat → Int} (_ : isB p f = true) (hq : isB p q = true) (h : permB p q = true) (j : Nat) : mul p (mul p (invm p q) f) q j = renm p f q j := by
  by_cases hj : (j : Int) < p
  · obtain ⟨i, hi, he⟩ := perm_hit hq h j hj
    obtain ⟨i', h1, h2, h3⟩ := ren_at f q j p.toNat ⟨i, hi, he⟩
    rw [mul_lt _ _ _ hj, mul_lt _ _ _ hj]
    unfold invm renm
    rw [h2, h3]
    rfl
  · rw [mul_ge _ _ _ (by omega)]
    unfold renm
    rw [ren_out f q j p.toNat (fun i hi e => by have := ok_at hq i (by omega); omega)]

theorem inv_ok {p : Int} {q : Nat → Int} (hq : isB p q = true) : isB p (invm p q) = true := by
  have hp := isB_pts hq
  have key : ∀ k : Nat, (k : Int) ≤ p → ∀ j : Nat, 0 ≤ invK q k j ∧ (invK q k j < p) ∧ (p ≤ (j : Int) → invK q k j = 0) := by
    intro k
    induction k with
    | zero => intro _ j; unfold invK; exact ⟨by omega, by omega, fun _ => rfl⟩
    | succ k ih =>
      intro hk j
      have := ok_at hq k (by omega)
      unfold invK upd
      by_cases e : j = (q k).toNat
      · rw [if_pos e]; exact ⟨by omega, by omega, fun c => by omega⟩
      · rw [if_neg e]; exact ih (by omega) j
  rw [isB_true]
  refine ⟨hp.1, hp.2, fun i _ => ⟨fun _ => ?_, fun c => ?_⟩⟩
  · have := key p.toNat (by omega) i; unfold invm; omega
  · exact (key p.toNat (by omega) i).2.2 c

set_option maxRecDepth 100000 in
set_option maxHeartbeats 1000000 in
theorem sren_any (p : Int) (f q : Nat → Int) (hf : isB p f = true) (hq : isB p q = true) (hperm : permB p q = true) (w : World) :
    Calls Try.prog 62 #[mv p f, mv p q] w fun e w' => e = .returned (mv p (renm p f q)) ∧ Below w.heap.size w w' := by
  have hR : mv p (renm p f q) = mv p (mul p (mul p (invm p q) f) q) := by
    unfold mv; rw [mcells_ext rfl (fun i _ => (ren_eq hf hq hperm i).symm)]
  rw [hR]
  clear hR
  have H1 := Lib.hid fun w => sinv_any p q hq w
  have H2 := Lib.hid fun w => times_any p (invm p q) f (inv_ok hq) hf w
  have H3 := Lib.hid fun w => times_any p (mul p (invm p q) f) q (mul_ok (inv_ok hq) hf) hq w
  clear hf hq hperm
  have rf0 : ∀ x : World, x.heap[w.heap.size]? = some (.cells (mcells p f) 26 (0, 0)) → x.cell? ⟨w.heap.size, 0, none⟩ = some (.int .i64 p) := fun x h => (blk6 h).1
  have rf1 : ∀ x : World, x.heap[w.heap.size]? = some (.cells (mcells p f) 26 (0, 0)) → x.cell? ⟨w.heap.size, 1, none⟩ = some (.int .i64 (f 0)) := fun x h => (blk6 h).2.1
  have rf2 : ∀ x : World, x.heap[w.heap.size]? = some (.cells (mcells p f) 26 (0, 0)) → x.cell? ⟨w.heap.size, 2, none⟩ = some (.int .i64 (f 1)) := fun x h => (blk6 h).2.2.1
  have rf3 : ∀ x : World, x.heap[w.heap.size]? = some (.cells (mcells p f) 26 (0, 0)) → x.cell? ⟨w.heap.size, 3, none⟩ = some (.int .i64 (f 2)) := fun x h => (blk6 h).2.2.2.1
  have rf4 : ∀ x : World, x.heap[w.heap.size]? = some (.cells (mcells p f) 26 (0, 0)) → x.cell? ⟨w.heap.size, 4, none⟩ = some (.int .i64 (f 3)) := fun x h => (blk6 h).2.2.2.2.1
  have rf5 : ∀ x : World, x.heap[w.heap.size]? = some (.cells (mcells p f) 26 (0, 0)) → x.cell? ⟨w.heap.size, 5, none⟩ = some (.int .i64 (f 4)) := fun x h => (blk6 h).2.2.2.2.2
  have rq0 : ∀ x : World, x.heap[w.heap.size + 1]? = some (.cells (mcells p q) 26 (0, 0)) → x.cell? ⟨w.heap.size + 1, 0, none⟩ = some (.int .i64 p) := fun x h => (blk6 h).1
  have rq1 : ∀ x : World, x.heap[w.heap.size + 1]? = some (.cells (mcells p q) 26 (0, 0)) → x.cell? ⟨w.heap.size + 1, 1, none⟩ = some (.int .i64 (q 0)) := fun x h => (blk6 h).2.1
  have rq2 : ∀ x : World, x.heap[w.heap.size + 1]? = some (.cells (mcells p q) 26 (0, 0)) → x.cell? ⟨w.heap.size + 1, 2, none⟩ = some (.int .i64 (q 1)) := fun x h => (blk6 h).2.2.1
  have rq3 : ∀ x : World, x.heap[w.heap.size + 1]? = some (.cells (mcells p q) 26 (0, 0)) → x.cell? ⟨w.heap.size + 1, 3, none⟩ = some (.int .i64 (q 2)) := fun x h => (blk6 h).2.2.2.1
  have rq4 : ∀ x : World, x.heap[w.heap.size + 1]? = some (.cells (mcells p q) 26 (0, 0)) → x.cell? ⟨w.heap.size + 1, 4, none⟩ = some (.int .i64 (q 3)) := fun x h => (blk6 h).2.2.2.2.1
  have rq5 : ∀ x : World, x.heap[w.heap.size + 1]? = some (.cells (mcells p q) 26 (0, 0)) → x.cell? ⟨w.heap.size + 1, 5, none⟩ = some (.int .i64 (q 4)) := fun x h => (blk6 h).2.2.2.2.2
  generalize mul p (mul p (invm p q) f) q = G3 at *
  generalize mul p (invm p q) f = G2 at *
  generalize invm p q = G1 at *
  simp only [mv, mcells] at *
  go_enter Try.func62, Try.ntmps62
  go_wp2_with fail
  go_region_held3 (fun w' => w'.heap[w.heap.size]? = some (.cells (mcells p f) 26 (0, 0)) ∧ w'.heap[w.heap.size + 1]? = some (.cells (mcells p q) 26 (0, 0))) (first | ((try dsimp only); (try go_split_ands); (repeat' apply And.intro) <;> ((repeat' (first | omega | (rw [hdrew]) | (with_reducible assumption) | (with_reducible exact Hid.out (by assumption)) | (with_reducible rfl) | ((with_reducible refine halloc_at _ _ _ ?_) <;> (first | (with_reducible rfl) | omega | (simp; done))) | (with_reducible refine chain6 ?_) | (with_reducible refine Eq.trans (hset_ne _ _ _ _ ?_) ?_) | (with_reducible refine Eq.trans (halloc_lt _ _ _ ?_) ?_) | (with_reducible refine Eq.trans (Below.block (Hid.out (by assumption)) _ ?_) ?_) | (simp; done) | (simp; omega))); done)))
    (first
      | (go_at_call 58; (with_reducible refine (H1.out _).mono ?_); rintro e w1 ⟨rfl, hb⟩; obtain ⟨hc, hf⟩ := bcell hb; have hz := hb.size; have Hb := Lib.hid hb; (try simp at hz hc hf); (try (have hy := Nat.lt_of_succ_le hz)); have hz0 : w.heap.size < w1.heap.size := (by omega); have hz1 : w.heap.size + 1 < w1.heap.size := (by omega); have hz2 : w.heap.size + 1 + 1 < w1.heap.size := (by omega); clear hb)
      | (go_at_call 68; (with_reducible refine (H2.out _).mono ?_); rintro e w1 ⟨rfl, hb⟩; obtain ⟨hc, hf⟩ := bcell hb; have hz := hb.size; have Hb := Lib.hid hb; (try simp at hz hc hf); (try (have hy := Nat.lt_of_succ_le hz)); have hz0 : w.heap.size < w1.heap.size := (by omega); have hz1 : w.heap.size + 1 < w1.heap.size := (by omega); have hz2 : w.heap.size + 1 + 1 < w1.heap.size := (by omega); clear hb)
      | (go_at_call 68; (with_reducible refine (H3.out _).mono ?_); rintro e w1 ⟨rfl, hb⟩; obtain ⟨hc, hf⟩ := bcell hb; have hz := hb.size; have Hb := Lib.hid hb; (try simp at hz hc hf); (try (have hy := Nat.lt_of_succ_le hz)); have hz0 : w.heap.size < w1.heap.size := (by omega); have hz1 : w.heap.size + 1 < w1.heap.size := (by omega); have hz2 : w.heap.size + 1 + 1 < w1.heap.size := (by omega); clear hb))
  all_goals go_wp2_with fail
  all_goals
    refine bodyPost_ret (v := mv p G3) (by simp [results, Try.results62, go_sem, *]) rfl ⟨rfl, ?_⟩
    (repeat' (first | (with_reducible exact Below.refl _ _) | (with_reducible refine Below.alloc ?_ ?_ _) | (with_reducible refine Below.setCell ?_ ?_ _) | (with_reducible refine Below.drew ?_) | (with_reducible refine below_drewN ?_ _) | (with_reducible refine Below.trans ?_ (Below.mono (Hid.out (by assumption)) ?_)) | omega | (simp; done) | (simp; omega)))

def renC (p : Int) (f : Nat → Int) (q : Int) (g : Nat → Int) : Int := if likeC p f q g = 0 then (if permB q g = true then 0 else 5) else likeC p f q g

def renV (p : Int) (f : Nat → Int) (q : Int) (g : Nat → Int) : Value := .tuple #[mv (resP (renC p f q g) p) (resT (renC p f q g) (renm p f g)), .int .i64 (renC p f q g)]

theorem renV_0 {p : Int} {f : Nat → Int} {g : Nat → Int} (h : likeC p f p g = 0) (h' : permB p g = true) : renV p f p g = .tuple #[mv p (renm p f g), .int .i64 0] := by
  have e : renC p f p g = 0 := by unfold renC; rw [if_pos h, if_pos h']
  unfold renV; rw [e]; rfl

theorem renV_5 {p : Int} {f : Nat → Int} {g : Nat → Int} (h : likeC p f p g = 0) (h' : permB p g = false) : renV p f p g = .tuple #[mv 0 fun _ => 0, .int .i64 5] := by
  have e : renC p f p g = 5 := by unfold renC; rw [if_pos h, if_neg (by rw [h']; exact Bool.false_ne_true)]
  unfold renV; rw [e]; rfl

theorem renV_1 {p : Int} {f : Nat → Int} {q : Int} {g : Nat → Int} (h : likeC p f q g = 1) : renV p f q g = .tuple #[mv 0 fun _ => 0, .int .i64 1] := by
  have e : renC p f q g = 1 := by unfold renC; rw [h]; rfl
  unfold renV; rw [e]; rfl

theorem renV_2 {p : Int} {f : Nat → Int} {q : Int} {g : Nat → Int} (h : likeC p f q g = 2) : renV p f q g = .tuple #[mv 0 fun _ => 0, .int .i64 2] := by
  have e : renC p f q g = 2 := by unfold renC; rw [h]; rfl
  unfold renV; rw [e]; rfl

set_option maxRecDepth 100000 in
set_option maxHeartbeats 2000000 in
theorem sRen_any (p : Int) (f : Nat → Int) (q : Int) (g : Nat → Int) (w : World) :
    Calls Try.prog 25 #[mv p f, mv q g] w fun e w' => e = .returned (renV p f q g) ∧ Below w.heap.size w w' := by
  have rf0 : ∀ x : World, x.heap[w.heap.size]? = some (.cells (mcells p f) 26 (0, 0)) → x.cell? ⟨w.heap.size, 0, none⟩ = some (.int .i64 p) := fun x h => (blk6 h).1
  have rf1 : ∀ x : World, x.heap[w.heap.size]? = some (.cells (mcells p f) 26 (0, 0)) → x.cell? ⟨w.heap.size, 1, none⟩ = some (.int .i64 (f 0)) := fun x h => (blk6 h).2.1
  have rf2 : ∀ x : World, x.heap[w.heap.size]? = some (.cells (mcells p f) 26 (0, 0)) → x.cell? ⟨w.heap.size, 2, none⟩ = some (.int .i64 (f 1)) := fun x h => (blk6 h).2.2.1
  have rf3 : ∀ x : World, x.heap[w.heap.size]? = some (.cells (mcells p f) 26 (0, 0)) → x.cell? ⟨w.heap.size, 3, none⟩ = some (.int .i64 (f 2)) := fun x h => (blk6 h).2.2.2.1
  have rf4 : ∀ x : World, x.heap[w.heap.size]? = some (.cells (mcells p f) 26 (0, 0)) → x.cell? ⟨w.heap.size, 4, none⟩ = some (.int .i64 (f 3)) := fun x h => (blk6 h).2.2.2.2.1
  have rf5 : ∀ x : World, x.heap[w.heap.size]? = some (.cells (mcells p f) 26 (0, 0)) → x.cell? ⟨w.heap.size, 5, none⟩ = some (.int .i64 (f 4)) := fun x h => (blk6 h).2.2.2.2.2
  have rg0 : ∀ x : World, x.heap[w.heap.size + 1]? = some (.cells (mcells q g) 26 (0, 0)) → x.cell? ⟨w.heap.size + 1, 0, none⟩ = some (.int .i64 q) := fun x h => (blk6 h).1
  have rg1 : ∀ x : World, x.heap[w.heap.size + 1]? = some (.cells (mcells q g) 26 (0, 0)) → x.cell? ⟨w.heap.size + 1, 1, none⟩ = some (.int .i64 (g 0)) := fun x h => (blk6 h).2.1
  have rg2 : ∀ x : World, x.heap[w.heap.size + 1]? = some (.cells (mcells q g) 26 (0, 0)) → x.cell? ⟨w.heap.size + 1, 2, none⟩ = some (.int .i64 (g 1)) := fun x h => (blk6 h).2.2.1
  have rg3 : ∀ x : World, x.heap[w.heap.size + 1]? = some (.cells (mcells q g) 26 (0, 0)) → x.cell? ⟨w.heap.size + 1, 3, none⟩ = some (.int .i64 (g 2)) := fun x h => (blk6 h).2.2.2.1
  have rg4 : ∀ x : World, x.heap[w.heap.size + 1]? = some (.cells (mcells q g) 26 (0, 0)) → x.cell? ⟨w.heap.size + 1, 4, none⟩ = some (.int .i64 (g 3)) := fun x h => (blk6 h).2.2.2.2.1
  have rg5 : ∀ x : World, x.heap[w.heap.size + 1]? = some (.cells (mcells q g) 26 (0, 0)) → x.cell? ⟨w.heap.size + 1, 5, none⟩ = some (.int .i64 (g 4)) := fun x h => (blk6 h).2.2.2.2.2
  rcases like_cases p f q g with ⟨hf, hg, rfl, hl⟩ | ⟨_, _, _, hl⟩ | ⟨_, hl⟩
  · have HL := Lib.hid fun w => like_any p f p g w
    rw [hl] at HL
    have HR := Lib.hid fun w => srank_any p g hg w
    cases hq : permB p g
    · rw [renV_5 hl hq]
      have hq' : (((asc (imgB p g)).length : Int) != p) = true := by unfold permB at hq; simp [bne, hq]
      clear hq hf hg hl
      generalize (asc (imgB p g)).length = R at *
      simp only [mv, mcells] at *
      go_enter Try.func25, Try.ntmps25
      go_wp2_with fail
      (refine (HL.out _).mono ?_; rintro e w1 ⟨rfl, hb⟩; obtain ⟨hc, hf⟩ := bcell hb; have hz := hb.size; have Hb := Lib.hid hb; (try simp at hz hc hf); (try (have hy := Nat.lt_of_succ_le hz)); have hz0 : w.heap.size < w1.heap.size := (by omega); have hz1 : w.heap.size + 1 < w1.heap.size := (by omega); have hz2 : w.heap.size + 1 + 1 < w1.heap.size := (by omega); clear hb)
      go_wp2_with fail
      go_region_held3 (fun w' => w'.heap[w.heap.size]? = some (.cells (mcells p f) 26 (0, 0)) ∧ w'.heap[w.heap.size + 1]? = some (.cells (mcells p g) 26 (0, 0))) (first | ((try dsimp only); (try go_split_ands); (repeat' apply And.intro) <;> ((repeat' (first | omega | (rw [hdrew]) | (with_reducible assumption) | (with_reducible exact Hid.out (by assumption)) | (with_reducible rfl) | ((with_reducible refine halloc_at _ _ _ ?_) <;> (first | (with_reducible rfl) | omega | (simp; done))) | (with_reducible refine chain6 ?_) | (with_reducible refine Eq.trans (hset_ne _ _ _ _ ?_) ?_) | (with_reducible refine Eq.trans (halloc_lt _ _ _ ?_) ?_) | (with_reducible refine Eq.trans (Below.block (Hid.out (by assumption)) _ ?_) ?_) | (simp; done) | (simp; omega))); done))) (first | (go_at_call 57; (with_reducible refine (HR.out _).mono ?_); rintro e w1 ⟨rfl, hb⟩; obtain ⟨hc, hf⟩ := bcell hb; have hz := hb.size; have Hb := Lib.hid hb; (try simp at hz hc hf); (try (have hy := Nat.lt_of_succ_le hz)); have hz0 : w.heap.size < w1.heap.size := (by omega); have hz1 : w.heap.size + 1 < w1.heap.size := (by omega); have hz2 : w.heap.size + 1 + 1 < w1.heap.size := (by omega); clear hb))
      all_goals go_wp2_with fail
      all_goals
        refine bodyPost_ret (v := .tuple #[mv 0 fun _ => 0, .int .i64 5]) (by simp [results, Try.results25, go_sem, *]) rfl ⟨rfl, ?_⟩
        (repeat' (first | (with_reducible exact Below.refl _ _) | (with_reducible refine Below.alloc ?_ ?_ _) | (with_reducible refine Below.setCell ?_ ?_ _) | (with_reducible refine Below.drew ?_) | (with_reducible refine below_drewN ?_ _) | (with_reducible refine Below.trans ?_ (Below.mono (Hid.out (by assumption)) ?_)) | omega | (simp; done) | (simp; omega)))
    · rw [renV_0 hl hq]
      have hq' : (((asc (imgB p g)).length : Int) != p) = false := by unfold permB at hq; simp [bne, hq]
      have HN := Lib.hid fun w => sren_any p f g hf hg hq w
      clear hq hf hg hl
      generalize (asc (imgB p g)).length = R at *
      generalize renm p f g = G at *
      simp only [mv, mcells] at *
      go_enter Try.func25, Try.ntmps25
      go_wp2_with fail
      (refine (HL.out _).mono ?_; rintro e w1 ⟨rfl, hb⟩; obtain ⟨hc, hf⟩ := bcell hb; have hz := hb.size; have Hb := Lib.hid hb; (try simp at hz hc hf); (try (have hy := Nat.lt_of_succ_le hz)); have hz0 : w.heap.size < w1.heap.size := (by omega); have hz1 : w.heap.size + 1 < w1.heap.size := (by omega); have hz2 : w.heap.size + 1 + 1 < w1.heap.size := (by omega); clear hb)
      go_wp2_with fail
      go_region_held3 (fun w' => w'.heap[w.heap.size]? = some (.cells (mcells p f) 26 (0, 0)) ∧ w'.heap[w.heap.size + 1]? = some (.cells (mcells p g) 26 (0, 0))) (first | ((try dsimp only); (try go_split_ands); (repeat' apply And.intro) <;> ((repeat' (first | omega | (rw [hdrew]) | (with_reducible assumption) | (with_reducible exact Hid.out (by assumption)) | (with_reducible rfl) | ((with_reducible refine halloc_at _ _ _ ?_) <;> (first | (with_reducible rfl) | omega | (simp; done))) | (with_reducible refine chain6 ?_) | (with_reducible refine Eq.trans (hset_ne _ _ _ _ ?_) ?_) | (with_reducible refine Eq.trans (halloc_lt _ _ _ ?_) ?_) | (with_reducible refine Eq.trans (Below.block (Hid.out (by assumption)) _ ?_) ?_) | (simp; done) | (simp; omega))); done))) (first | (go_at_call 57; (with_reducible refine (HR.out _).mono ?_); rintro e w1 ⟨rfl, hb⟩; obtain ⟨hc, hf⟩ := bcell hb; have hz := hb.size; have Hb := Lib.hid hb; (try simp at hz hc hf); (try (have hy := Nat.lt_of_succ_le hz)); have hz0 : w.heap.size < w1.heap.size := (by omega); have hz1 : w.heap.size + 1 < w1.heap.size := (by omega); have hz2 : w.heap.size + 1 + 1 < w1.heap.size := (by omega); clear hb))
      all_goals go_wp2_with fail
      all_goals (refine (HN.out _).mono ?_; rintro e w1 ⟨rfl, hb⟩; obtain ⟨hc, hf⟩ := bcell hb; have hz := hb.size; have Hb := Lib.hid hb; (try simp at hz hc hf); (try (have hy := Nat.lt_of_succ_le hz)); have hz0 : w.heap.size < w1.heap.size := (by omega); have hz1 : w.heap.size + 1 < w1.heap.size := (by omega); have hz2 : w.heap.size + 1 + 1 < w1.heap.size := (by omega); clear hb)
      all_goals go_wp2_with fail
      all_goals
        refine bodyPost_ret (v := .tuple #[mv p G, .int .i64 0]) (by simp [results, Try.results25, go_sem, *]) rfl ⟨rfl, ?_⟩
        (repeat' (first | (with_reducible exact Below.refl _ _) | (with_reducible refine Below.alloc ?_ ?_ _) | (with_reducible refine Below.setCell ?_ ?_ _) | (with_reducible refine Below.drew ?_) | (with_reducible refine below_drewN ?_ _) | (with_reducible refine Below.trans ?_ (Below.mono (Hid.out (by assumption)) ?_)) | omega | (simp; done) | (simp; omega)))
  · rw [renV_2 hl]
    have HL := Lib.hid fun w => like_any p f q g w
    rw [hl] at HL
    clear rf0 rf1 rf2 rf3 rf4 rf5 rg0 rg1 rg2 rg3 rg4 rg5 hl
    simp only [mv, mcells]
    go_enter Try.func25, Try.ntmps25
    go_wp2_with fail
    (refine (HL.out _).mono ?_; rintro e w1 ⟨rfl, hb⟩; obtain ⟨hc, hf⟩ := bcell hb; have hz := hb.size; have Hb := Lib.hid hb; (try simp at hz hc hf); (try (have hy := Nat.lt_of_succ_le hz)); have hz0 : w.heap.size < w1.heap.size := (by omega); have hz1 : w.heap.size + 1 < w1.heap.size := (by omega); have hz2 : w.heap.size + 1 + 1 < w1.heap.size := (by omega); clear hb)
    go_wp2_with fail
    refine bodyPost_ret (v := .tuple #[mv 0 fun _ => 0, .int .i64 2]) (by simp [results, Try.results25, go_sem, *]) rfl ⟨rfl, ?_⟩
    (repeat' (first | (with_reducible exact Below.refl _ _) | (with_reducible refine Below.alloc ?_ ?_ _) | (with_reducible refine Below.setCell ?_ ?_ _) | (with_reducible refine Below.drew ?_) | (with_reducible refine below_drewN ?_ _) | (with_reducible refine Below.trans ?_ (Below.mono (Hid.out (by assumption)) ?_)) | omega | (simp; done) | (simp; omega)))
  · rw [renV_1 hl]
    have HL := Lib.hid fun w => like_any p f q g w
    rw [hl] at HL
    clear rf0 rf1 rf2 rf3 rf4 rf5 rg0 rg1 rg2 rg3 rg4 rg5 hl
    simp only [mv, mcells]
    go_enter Try.func25, Try.ntmps25
    go_wp2_with fail
    (refine (HL.out _).mono ?_; rintro e w1 ⟨rfl, hb⟩; obtain ⟨hc, hf⟩ := bcell hb; have hz := hb.size; have Hb := Lib.hid hb; (try simp at hz hc hf); (try (have hy := Nat.lt_of_succ_le hz)); have hz0 : w.heap.size < w1.heap.size := (by omega); have hz1 : w.heap.size + 1 < w1.heap.size := (by omega); have hz2 : w.heap.size + 1 + 1 < w1.heap.size := (by omega); clear hb)
    go_wp2_with fail
    refine bodyPost_ret (v := .tuple #[mv 0 fun _ => 0, .int .i64 1]) (by simp [results, Try.results25, go_sem, *]) rfl ⟨rfl, ?_⟩
    (repeat' (first | (with_reducible exact Below.refl _ _) | (with_reducible refine Below.alloc ?_ ?_ _) | (with_reducible refine Below.setCell ?_ ?_ _) | (with_reducible refine Below.drew ?_) | (with_reducible refine below_drewN ?_ _) | (with_reducible refine Below.trans ?_ (Below.mono (Hid.out (by assumption)) ?_)) | omega | (simp; done) | (simp; omega)))

end Go.Proofs.Ythblbamiammodaa
