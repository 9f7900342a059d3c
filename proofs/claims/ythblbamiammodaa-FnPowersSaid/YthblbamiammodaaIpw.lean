/- The contracts of impl.powersOf and of the iterator that it makes. -/
import Derived.Test.YthblbamiammodaaEnd
import Derived.Test.YthblbamiammodaaPowx
import Derived.Test.YthblbamiammodaaPow
namespace Go.Proofs.Ythblbamiammodaa
open Go Go.RowKit
attribute [local go_sem] Oper.semAt_some

theorem powersOf_any (p : Int) (f : Nat → Int) (w : World) :
    Calls Try.prog 69 #[mv p f] w fun e w' => e = .returned (.func (.func 77) #[] #[.pointer (some ⟨w.heap.size, 0, none⟩)]) ∧ w' = w.alloc (.cells (mcells p f) 26) := by
  simp only [mv, mcells]
  go_enter Try.func69, Try.ntmps69
  go_wp2_with fail
  go_ret
  exact ⟨rfl, rfl⟩

theorem grown_of {W W' : World} (h : Below W.heap.size W W') : W.grownBy W' none := ⟨h.os, h.tape, h.output, h.size, fun k hk _ => h.block k hk⟩

theorem AbidesAll.below {β : Type} {B : Nat} {J : β → World → Prop} (h : AbidesAll B J) {s : β} {W W' : World} (hs : J s W) (hb : Below W.heap.size W W') : J s W' := h s W W' none hs (grown_of hb) (fun r e => by cases e)

theorem AbidesAll.set {β : Type} {B : Nat} {J : β → World → Prop} (h : AbidesAll B J) {s : β} {W : World} {b i : Nat} (v : Value) (hs : J s W) (hl : B ≤ b) : J s (W.setCell ⟨b, i, none⟩ v) :=
  h s W _ (some b) hs ⟨rfl, rfl, rfl, by simp [World.setCell], fun k _ hk => hset_ne _ _ _ _ (fun e => hk (by rw [e]))⟩ (fun r e => by cases e; exact hl)

set_option maxRecDepth 100000 in
set_option maxHeartbeats 2000000 in
theorem powers_endless (p : Int) (f : Nat → Int) (hf : isB p f = true) (B N n : Nat) (hn : 1 ≤ n) (hNN : N ≤ 1000) (w : World) (hB : B < w.heap.size) (hbf : w.heap[B]? = some (.cells (mcells p f) 26 (0, 0))) :
    Endless Fence.wide n Try.prog 77 #[.pointer (some ⟨B, 0, none⟩)] (fun k => #[.int .i64 k, mv p (pow p f k)]) (fun b => b = B) N w := fun l J Jx W hW hJ hJx hN hY h0 => by
  obtain ⟨h1, h5⟩ := isB_pts hf
  have hBW := (hW.block B (by omega)).trans hbf
  have hBlt : B < W.heap.size := (Array.getElem?_eq_some_iff.1 hBW).1
  obtain ⟨e0, e1, e2, e3, e4, e5⟩ := blk6 hBW
  have hsW := hW.size
  have HJ := Lib.hid hJ
  have HN := Lib.hid hN
  have HY := Lib.hid hY
  have H0 := Lib.hid h0
  have HBW := Lib.hid hBW
  have HF := Lib.hid hf
  clear hW hJ hJx hN hY h0 hbf hBW hf
  refine callsIn_of_wp Try.func77 rfl trivial ?_ rfl
  simp only [Try.ntmps77, List.size_toArray, List.length_cons, List.length_nil, Nat.reduceAdd, Nat.reduceSub, Array.replicate_succ, Array.replicate_zero, List.push_toArray, List.append_toArray, List.nil_append, List.cons_append]
  gi_wp2_with (refine ⟨trivial, ?_⟩; gi_at_call 66; refine (callsIn_wide.2 (iid_any p h1 h5 _)).mono ?_; rintro e w1 ⟨rfl, hb⟩; simp only [mv, mcells]; have Hb := Lib.hid hb; have hz := hb.size; clear hb)
  have hzW : W.heap.size ≤ w1.heap.size := by simpa using hz
  have HPR := Lib.hid fun k w => product_any p (pow p f k) f (pow_ok HF.out k) HF.out w
  gi_loopw [4] (fun v wr => ∃ k : Nat, v = .int .i64 k ∧ J k wr ∧ wr.heap[w1.heap.size]? = some (.cells (mcells p (pow p f k)) 26 (0, 0)) ∧ wr.heap[B]? = some (.cells (mcells p f) 26 (0, 0)) ∧ w1.heap.size < wr.heap.size) (fun v _ => N - (intOf v).toNat)
  case atStart =>
    refine ⟨0, rfl, HJ.out.below H0.out (by (repeat' (first | (with_reducible exact Below.refl _ _) | (with_reducible refine Below.alloc ?_ ?_ _) | (with_reducible refine Below.setCell ?_ ?_ _) | (with_reducible refine Below.drew ?_) | (with_reducible refine below_drewN ?_ _) | (with_reducible refine Below.trans ?_ (Below.mono (Hid.out (by assumption)) ?_)) | omega | (simp; done) | (simp; omega)))), ?_, ?_, by simp⟩
    · rw [show pow p f 0 = idn p from rfl]
      exact halloc_at _ _ _ rfl
    · with_reducible refine Eq.trans (halloc_lt _ _ _ (by omega)) ?_
      exact (Hb.out.block _ (by omega)).trans HBW.out
  case round =>
    clear e0 e1 e2 e3 e4 e5
    obtain ⟨k, rfl, hJk, b1, b0, hsz⟩ := hrel
    have hkN := HN.out k wr hJk
    have hkb : (k : Int) ≤ 1000 := by omega
    obtain ⟨fn, tm, asg, bdy, hy, hR⟩ := HY.out k wr hJk
    simp only [mv, mcells] at hy
    obtain ⟨e0, e1, e2, e3, e4, e5⟩ := blk6 b1
    have B0 := Lib.hid b0
    have B1 := Lib.hid b1
    have HHR := Lib.hid hR
    clear b0 b1 hR hJk
    gi_wp2
    refine HHR.out.mono ?_
    rintro e V (⟨rfl, hJ1, hk⟩ | ⟨rfl, hJx1⟩)
    · have b1 := (hk.rest w1.heap.size hzW hsz).trans B1.out
      have b0 := (hk.kept B rfl).trans B0.out
      clear e0 e1 e2 e3 e4 e5 hy
      obtain ⟨e0, e1, e2, e3, e4, e5⟩ := blk6 b1
      obtain ⟨f0, f1, f2, f3, f4, f5⟩ := blk6 b0
      have hfr := blk_free b1
      have hsV : w1.heap.size < V.heap.size := Nat.lt_of_lt_of_le hsz hk.size
      have B0 := Lib.hid b0
      have B1 := Lib.hid b1
      have HJ1 := Lib.hid hJ1
      clear b0 b1 hJ1 hk
      gi_wp2_with (refine ⟨trivial, ?_⟩; gi_at_call 59; refine (callsIn_wide.2 (HPR.out k _)).mono ?_; rintro e w2 ⟨rfl, hb⟩; simp only [mv, mcells]; obtain ⟨hc, hf⟩ := bcell hb; have Hb2 := Lib.hid hb; have hz2 := hb.size; clear hb)
      go_roundw
      case rel =>
        have hs2 : w1.heap.size < w2.heap.size := by omega
        refine ⟨k + 1, by go_num, ?_, ?_, ?_, by simpa using hs2⟩
        · exact HJ.out.set _ (HJ.out.set _ (HJ.out.set _ (HJ.out.set _ (HJ.out.set _ (HJ.out.set _ (HJ.out.below HJ1.out Hb2.out) hzW) hzW) hzW) hzW) hzW) hzW
        · rw [pow_succ]; exact chainM ((Hb2.out.block _ hsV).trans B1.out)
        · exact (chain_ne _ _ _ _ _ _ _ _ _ (by omega)).trans ((Hb2.out.block _ (by omega)).trans B0.out)
      case measure => simp [intOf]; omega
    · gi_wp2
      go_end0
      exact ⟨⟨_, rfl⟩, hJx1⟩
end Go.Proofs.Ythblbamiammodaa
