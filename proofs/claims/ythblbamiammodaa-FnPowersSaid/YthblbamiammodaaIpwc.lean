/- The contract of impl.idempotentPower. -/
import Derived.Test.YthblbamiammodaaIpw
namespace Go.Proofs.Ythblbamiammodaa
open Go Go.RowKit
attribute [local go_sem] Oper.semAt_some

/-- What holds between two rounds: no idempotent power with a number of at least 1 has been met. -/
def IpwI (p : Int) (f : Nat → Int) (w : World) (k : Nat) (W : World) : Prop :=
  k ≤ 60 ∧ (∀ j, 1 ≤ j → j < k → idemB p (pow p f j) = false) ∧ Below w.heap.size w W ∧
    W.heap[w.heap.size + 1]? = some (.cells (mcells 0 fun _ => 0) 26 (0, 0)) ∧ W.heap[w.heap.size + 1 + 1]? = some (.cells (mcells 0 fun _ => 0) 26 (0, 0))

/-- What holds when the loop has been left. -/
def IpwX (p : Int) (f : Nat → Int) (w : World) (_ : Unit) (W : World) : Prop :=
  Below w.heap.size w W ∧ W.heap[w.heap.size + 1]? = some (.cells (mcells 0 fun _ => 0) 26 (0, 0)) ∧ W.heap[w.heap.size + 1 + 1]? = some (.cells (mcells p (pow p f 60)) 26 (0, 0))

theorem ipwI_abides (p : Int) (f : Nat → Int) (w : World) (B : Nat) (hB : w.heap.size + 1 + 1 < B) : AbidesAll B (IpwI p f w) := fun s X Y row h hg hr =>
  ⟨h.1, h.2.1, h.2.2.1.grown hg h.2.2.1.size (fun k e => Nat.le_trans (by omega) (hr k e)), grown_at hg hr (by omega) h.2.2.2.1, grown_at hg hr (by omega) h.2.2.2.2⟩

theorem ipwX_abides (p : Int) (f : Nat → Int) (w : World) (B : Nat) (hB : w.heap.size + 1 + 1 < B) : AbidesAll B (IpwX p f w) := fun s X Y row h hg hr =>
  ⟨h.1.grown hg h.1.size (fun k e => Nat.le_trans (by omega) (hr k e)), grown_at hg hr (by omega) h.2.1, grown_at hg hr (by omega) h.2.2⟩

set_option maxRecDepth 100000 in
set_option maxHeartbeats 1000000 in
theorem iip_any (p : Int) (f : Nat → Int) (hf : isB p f = true) (w : World) :
    Calls Try.prog 45 #[mv p f] w fun e w' => e = .returned (mv p (pow p f 60)) ∧ Below w.heap.size w w' := by
  refine (callsIn_wide (n := 5)).1 ?_
  refine callsIn_of_wp_marks Try.func45 rfl trivial ?_ rfl
  simp only [mv, mcells, Try.ntmps45, List.size_toArray, List.length_cons, List.length_nil, Nat.reduceAdd, Nat.reduceSub, Array.replicate_succ, Array.replicate_zero, List.push_toArray, List.append_toArray, List.nil_append, List.cons_append]
  have HPO := Lib.hid fun w => powersOf_any p f w
  simp only [mv, mcells] at HPO
  gi_wp2_with (refine ⟨trivial, ?_⟩; gi_at_call 69; refine (callsIn_wide.2 (HPO.out _)).mono ?_; rintro e w1 ⟨rfl, rfl⟩)
  have HPL := Lib.hid fun B n hn w hB hbf => powers_endless p f hf B 61 n hn (by omega) w hB hbf
  have HID := Lib.hid fun k w => iidem_any p (pow p f k) (pow_ok hf k) w
  have H60 := Lib.hid (idem_60 hf)
  have HON := Lib.hid fun k h1 h2 => idem_only hf k h1 h2
  clear HPO hf
  refine range_endless rfl (by omega) (gf := 77) (lb := #[.pointer (some ⟨w.heap.size + 1 + 1 + 1, 0, none⟩)]) rfl trivial (enters_of Try.func77 (by kernel_rfl) rfl)
    (encs := fun k => #[.int .i64 k, mv p (pow p f k)]) (K := fun b => b = w.heap.size + 1 + 1 + 1) (N := 61) (id := 0)
    (HPL.out (w.heap.size + 1 + 1 + 1) _ (by omega) _ (by simp) (halloc_at _ _ _ (by simp))) (fun b e => by simp; omega) (Below.refl _ _) (fun _ => rfl)
    (IpwI p f w) (IpwX p f w) (ipwI_abides p f w _ (by simp)) (ipwX_abides p f w _ (by simp)) ?start (fun k W h => by have := h.1; omega)
    (fun k a' W => ∃ Bx, w.heap.size + 1 + 1 + 1 < Bx ∧ W.heap[Bx]? = some (.cells (mcells p (pow p f k)) 26 (0, 0)) ∧
      a' = { tmps := #[.agg #[.int .i64 p, .int .i64 (f 0), .int .i64 (f 1), .int .i64 (f 2), .int .i64 (f 3), .int .i64 (f 4)], .pointer (some ⟨w.heap.size, 0, none⟩), .pointer (some ⟨w.heap.size + 1, 0, none⟩), .pointer (some ⟨w.heap.size + 1 + 1, 0, none⟩), .int .i64 k, .pointer (some ⟨Bx, 0, none⟩),
        .agg #[.int .i64 0, .int .i64 0, .int .i64 0, .int .i64 0, .int .i64 0, .int .i64 0], .agg #[.int .i64 p, .int .i64 (f 0), .int .i64 (f 1), .int .i64 (f 2), .int .i64 (f 3), .int .i64 (f 4)],
        .func (.func 77) #[] #[.pointer (some ⟨w.heap.size + 1 + 1 + 1, 0, none⟩)], .int .i64 k, mv p (pow p f k), undef, undef, undef, undef, undef, undef, undef, undef], defers := [] })
    ?hax ?assign ?body ?stop
  case start =>
    refine ⟨by omega, by omega, ?_, ?_, ?_⟩
    · (repeat' (first | (with_reducible exact Below.refl _ _) | (with_reducible refine Below.alloc ?_ ?_ _) | (with_reducible refine Below.setCell ?_ ?_ _) | (with_reducible refine Below.drew ?_) | (with_reducible refine below_drewN ?_ _) | (with_reducible refine Below.trans ?_ (Below.mono (Hid.out (by assumption)) ?_)) | omega | (simp; done) | (simp; omega)))
    · (repeat' (first | omega | (rw [hdrew]) | (with_reducible assumption) | (with_reducible exact Hid.out (by assumption)) | (with_reducible rfl) | ((with_reducible refine halloc_at _ _ _ ?_) <;> (first | (with_reducible rfl) | omega | (simp; done))) | (with_reducible refine chain6 ?_) | (with_reducible refine Eq.trans (hset_ne _ _ _ _ ?_) ?_) | (with_reducible refine Eq.trans (halloc_lt _ _ _ ?_) ?_) | (with_reducible refine Eq.trans (Below.block (Hid.out (by assumption)) _ ?_) ?_) | (simp; done) | (simp; omega)))
    · (repeat' (first | omega | (rw [hdrew]) | (with_reducible assumption) | (with_reducible exact Hid.out (by assumption)) | (with_reducible rfl) | ((with_reducible refine halloc_at _ _ _ ?_) <;> (first | (with_reducible rfl) | omega | (simp; done))) | (with_reducible refine chain6 ?_) | (with_reducible refine Eq.trans (hset_ne _ _ _ _ ?_) ?_) | (with_reducible refine Eq.trans (halloc_lt _ _ _ ?_) ?_) | (with_reducible refine Eq.trans (Below.block (Hid.out (by assumption)) _ ?_) ?_) | (simp; done) | (simp; omega)))
  case hax =>
    rintro k a' _ X Y row ⟨Bx, h1, h2, h3⟩ hg hr
    exact ⟨Bx, h1, (hg.block Bx (Array.getElem?_eq_some_iff.1 h2).1 (fun e => by obtain ⟨_, o, ho, hc⟩ := hr Bx e.symm; rw [h2] at ho; cases ho; cases hc)).trans h2, h3⟩
  case assign =>
    rintro l k W Kx hi hlt hK
    have HI := Lib.hid hi
    have HK := Lib.hid hK
    clear hi hK
    simp only [World.size_alloc] at hlt
    simp only [mv, mcells]
    gi_wp2
    refine HK.out _ _ ?_ ?_ ?_
    · exact Kept.of ((Below.refl _ _).alloc (Nat.le_refl _) _) (fun b e => by omega)
    · exact AbidesAll.alloc (ipwI_abides p f w _ (Nat.lt_succ_self _)) _ HI.out
    · exact ⟨W.heap.size, by omega, halloc_at _ _ _ rfl, rfl⟩
  case body =>
    rintro l k a' W ⟨hk, hno, hb, c1, c2⟩ ⟨Bx, hBx, cx, rfl⟩ hlt
    have hB := Lib.hid hb
    have C1 := Lib.hid c1
    have C2 := Lib.hid c2
    have CX := Lib.hid cx
    have HNO := Lib.hid hno
    obtain ⟨x0, x1, x2, x3, x4, x5⟩ := blk6 cx
    have hxl : Bx < W.heap.size := (Array.getElem?_eq_some_iff.1 cx).1
    clear hb c1 c2 cx hno
    have HQ := HID.out k
    have hk6 : (k : Int) ≤ 60 := by omega
    simp only [mv, mcells] at HQ
    have HQ := Lib.hid HQ
    simp only [World.size_alloc] at hlt
    have hKW : ∀ b, b = w.heap.size + 1 + 1 + 1 → b < W.heap.size := fun b e => by omega
    have HKW := Lib.hid hKW
    clear hKW
    by_cases hk1 : 1 ≤ k
    · have hk1' : (1 : Int) ≤ (k : Int) := by omega
      cases hi : idemB p (pow p f k)
      · have HI := Lib.hid hi
        have hk60 : k ≠ 60 := fun e => by rw [e, H60.out] at hi; cases hi
        have hstep : IpwI p f w (k + 1) W := ⟨by omega, fun j h1 h2 => by
          by_cases e : j = k
          · rw [e]; exact hi
          · exact HNO.out j h1 (by omega), hB.out, C1.out, C2.out⟩
        have HST := Lib.hid hstep
        have HQ := HQ.out
        rw [hi] at HQ
        have HQ := Lib.hid HQ
        clear hi hstep
        gi_wp2_with (refine ⟨trivial, ?_⟩; gi_at_call 49; refine (CallsIn.inRound l (callsIn_wide.2 (HQ.out _))).mono ?_; rintro e w2 ⟨rfl, hb⟩; have Hb2 := Lib.hid hb; clear hb)
        exact ⟨Kept.of Hb2.out HKW.out, AbidesAll.below (ipwI_abides p f w _ (Nat.lt_succ_self _)) HST.out Hb2.out⟩
      · have HE := Lib.hid (HON.out k hk1 hi)
        have HQ := HQ.out
        rw [hi] at HQ
        have HQ := Lib.hid HQ
        obtain ⟨y0, y1, y2, y3, y4, y5⟩ := blk6 C2.out
        have hfr := blk_free C2.out
        have hlt2 : w.heap.size + 1 + 1 < W.heap.size := by omega
        clear hi
        gi_wp2_with (refine ⟨trivial, ?_⟩; gi_at_call 49; refine (CallsIn.inRound l (callsIn_wide.2 (HQ.out _))).mono ?_; rintro e w2 ⟨rfl, hb⟩; obtain ⟨hc, hf⟩ := bcell hb; have Hb2 := Lib.hid hb; clear hb)
        refine ⟨rfl, fun b h1 h2 => ?_, ?_, ?_, ?_⟩
        · simp only [World.size_alloc] at h1
          exact (chain_ne _ _ _ _ _ _ _ _ _ (by omega)).trans (Hb2.out.block _ h2)
        · have hWs := hB.out.size
          (repeat' (first | (with_reducible exact Below.refl _ _) | (with_reducible refine Below.alloc ?_ ?_ _) | (with_reducible refine Below.setCell ?_ ?_ _) | (with_reducible refine Below.drew ?_) | (with_reducible refine below_drewN ?_ _) | (with_reducible refine Below.trans ?_ (Below.mono (Hid.out (by assumption)) ?_)) | omega | (simp; done) | (simp; omega)))
        · exact (chain_ne _ _ _ _ _ _ _ _ _ (by omega)).trans ((Hb2.out.block _ (by omega)).trans C1.out)
        · rw [← HE.out]
          exact chainM ((Hb2.out.block _ hlt2).trans C2.out)
    · have hstep : IpwI p f w (k + 1) W := ⟨by omega, fun j h1 h2 => by omega, hB.out, C1.out, C2.out⟩
      have HST := Lib.hid hstep
      have hk1' : ¬ (1 : Int) ≤ (k : Int) := by omega
      have hk2' : decide ((1 : Int) ≤ (k : Int)) = false := by simp; omega
      clear hstep
      gi_wp2
      refine ⟨trivial, ?_⟩
      gi_wp2
      exact ⟨Kept.refl _ _ _, HST.out⟩
  case stop =>
    rintro D W hD ⟨hb, c1, c2⟩ hK
    obtain ⟨x0, x1, x2, x3, x4, x5⟩ := blk6 c2
    obtain ⟨y0, y1, y2, y3, y4, y5⟩ := blk6 c1
    have hfr := blk_free c1
    have C1 := Lib.hid c1
    have HB := Lib.hid hb
    have HK := Lib.hid hK
    clear c1 c2 hb hK
    gi_wp2
    have hK' : (((((((W.setCell ⟨w.heap.size + 1, 0, none⟩ (.int .i64 p)).setCell ⟨w.heap.size + 1, 1, none⟩ (.int .i64 (pow p f 60 0))).setCell ⟨w.heap.size + 1, 2, none⟩ (.int .i64 (pow p f 60 1))).setCell ⟨w.heap.size + 1, 3, none⟩ (.int .i64 (pow p f 60 2))).setCell ⟨w.heap.size + 1, 4, none⟩ (.int .i64 (pow p f 60 3))).setCell ⟨w.heap.size + 1, 5, none⟩ (.int .i64 (pow p f 60 4))).heap[D]?) = some (.deferred (some [])) := by
      simp only [World.size_alloc] at hD
      exact (chain_ne _ _ _ _ _ _ _ _ _ (by omega)).trans HK.out
    have hc1 := (chainM C1.out : (((((((W.setCell ⟨w.heap.size + 1, 0, none⟩ (.int .i64 p)).setCell ⟨w.heap.size + 1, 1, none⟩ (.int .i64 (pow p f 60 0))).setCell ⟨w.heap.size + 1, 2, none⟩ (.int .i64 (pow p f 60 1))).setCell ⟨w.heap.size + 1, 3, none⟩ (.int .i64 (pow p f 60 2))).setCell ⟨w.heap.size + 1, 4, none⟩ (.int .i64 (pow p f 60 3))).setCell ⟨w.heap.size + 1, 5, none⟩ (.int .i64 (pow p f 60 4))).heap[w.heap.size + 1]?) = some (.cells (mcells p (pow p f 60)) 26 (0, 0)))
    have hDn : w.heap.size + 1 ≠ D := by simp only [World.size_alloc] at hD; omega
    have hbl : Below w.heap.size w (((((((W.setCell ⟨w.heap.size + 1, 0, none⟩ (.int .i64 p)).setCell ⟨w.heap.size + 1, 1, none⟩ (.int .i64 (pow p f 60 0))).setCell ⟨w.heap.size + 1, 2, none⟩ (.int .i64 (pow p f 60 1))).setCell ⟨w.heap.size + 1, 3, none⟩ (.int .i64 (pow p f 60 2))).setCell ⟨w.heap.size + 1, 4, none⟩ (.int .i64 (pow p f 60 3))).setCell ⟨w.heap.size + 1, 5, none⟩ (.int .i64 (pow p f 60 4)))) := by
      (repeat' (first | (with_reducible exact Below.refl _ _) | (with_reducible refine Below.alloc ?_ ?_ _) | (with_reducible refine Below.setCell ?_ ?_ _) | (with_reducible refine Below.drew ?_) | (with_reducible refine below_drewN ?_ _) | (with_reducible refine Below.trans ?_ (Below.mono (Hid.out (by assumption)) ?_)) | omega | (simp; done) | (simp; omega)))
    clear x0 x1 x2 x3 x4 x5 y0 y1 y2 y3 y4 y5 hfr
    generalize (((((((W.setCell ⟨w.heap.size + 1, 0, none⟩ (.int .i64 p)).setCell ⟨w.heap.size + 1, 1, none⟩ (.int .i64 (pow p f 60 0))).setCell ⟨w.heap.size + 1, 2, none⟩ (.int .i64 (pow p f 60 1))).setCell ⟨w.heap.size + 1, 3, none⟩ (.int .i64 (pow p f 60 2))).setCell ⟨w.heap.size + 1, 4, none⟩ (.int .i64 (pow p f 60 3))).setCell ⟨w.heap.size + 1, 5, none⟩ (.int .i64 (pow p f 60 4)))) = V at *
    refine ⟨by simp, .inl ⟨_, _, rfl, run_takeDeferred hK', ?_⟩⟩
    have hc2 := (World.putObj_heap_other (o := .deferred none) hDn).trans hc1
    obtain ⟨z0, z1, z2, z3, z4, z5⟩ := blk6 hc2
    refine ⟨_, by simp [results, Try.results45, go_sem, z0, z1, z2, z3, z4, z5], rfl, ?_⟩
    exact hbl.grown (grownBy_putObj' V D _) hbl.size (fun k e => by cases e; simp only [World.size_alloc] at hD; omega)
end Go.Proofs.Ythblbamiammodaa
