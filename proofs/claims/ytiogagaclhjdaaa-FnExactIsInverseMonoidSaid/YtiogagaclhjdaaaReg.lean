/- The contracts of (*monoid).isRegular at a monoid, of (*monoid).elementsThat at it, and of (*monoid).inversesOf. -/
import Derived.Test.YtiogagaclhjdaaaBck
namespace Go.Proofs.Ytiogagaclhjdaaa
open Go Go.RowKit

theorem iregC_any {p : Int} {K : List Nat} {c : Nat} (hmon : Mon p K) (hc : c ∈ K) (b cE : Nat) (aE : Option Addr) (mo : Option Nat) (w : World) (hm : w.heap[b]? = some (.cells #[.slice aE K.length cE, .map mo] 48 (0, 0))) (hr : InRowM w aE (mE p K)) :
    Calls Try.prog 49 #[.pointer (some ⟨b, 0, none⟩), mv p (dcd c)] w fun e w' => e = .returned (.bool (regC p K c)) ∧ Below w.heap.size w w' :=
  ireg_any (Q := bckC p c) hmon.le p (dcd c) b cE aE mo w hm hr (fun x hx z _ => by simpa using iback_any (hmon.vl _ hc) (hmon.vl x hx) z)

/-- The regular elements. -/
def rglC (p : Int) (K : List Nat) : List Nat := K.filter (regC p K)

theorem thatR_any {p : Int} {K : List Nat} (hmon : Mon p K) (b cE : Nat) (aE : Option Addr) (mo : Option Nat) (w : World) (hm : w.heap[b]? = some (.cells #[.slice aE K.length cE, .map mo] 48 (0, 0))) (hr : InRowM w aE (mE p K)) :
    Calls Try.prog 52 #[.pointer (some ⟨b, 0, none⟩), .func (.func 49) #[.pointer (some ⟨b, 0, none⟩)] #[]] w
      fun e w' => ∃ a cap, e = .returned (.slice a (rglC p K).length cap) ∧ RdM w' w.heap.size a (mE p (rglC p K)) ∧ Below w.heap.size w w' :=
  thatG_any hmon.le (enters_of Try.func49 (by kernel_rfl) rfl) b cE aE mo w hm hr fun x hx z hz => by
    simpa using iregC_any hmon hx b cE aE mo z (bel_at hz hm) (hr.below hz)

theorem thatR_nil (b : Nat) (mo : Option Nat) (w : World) (hm : w.heap[b]? = some (.cells #[.slice none 0 0, .map mo] 48 (0, 0))) :
    Calls Try.prog 52 #[.pointer (some ⟨b, 0, none⟩), .func (.func 49) #[.pointer (some ⟨b, 0, none⟩)] #[]] w
      fun e w' => ∃ a cap, e = .returned (.slice a 0 cap) ∧ RdM w' w.heap.size a [] ∧ Below w.heap.size w w' :=
  thatG_any (p := 0) (K := []) (Q := fun _ => false) (by simp) (enters_of Try.func49 (by kernel_rfl) rfl) b 0 none mo w hm (Or.inl rfl) fun x hx => by cases hx

/-- The tests of inverses: a block of two function values. -/
def TestsAt (w : World) (bt bs : Nat) : Prop :=
  w.heap[bt]? = some (.cells #[.slice (some ⟨bs, 0, none⟩) 2 2] 72 (0, 0)) ∧
    w.heap[bs]? = some (.cells #[.func (.func 75) #[] #[], .func (.func 104) #[] #[]] 52 (0, 0))

theorem TestsAt.below {w z : World} {bt bs : Nat} (h : TestsAt w bt bs) (hz : Below w.heap.size w z) : TestsAt z bt bs := ⟨bel_at hz h.1, bel_at hz h.2⟩

set_option maxRecDepth 100000 in
set_option maxHeartbeats 1000000 in
theorem iinv1_any {p : Int} {c x : Nat} (hc : vld p c) (hx : vld p x) (bt bs bf : Nat) (w : World) (ht : TestsAt w bt bs) (hbf : w.heap[bf]? = some (.cells (mcells p (dcd c)) 31 (0, 0))) :
    Calls Try.prog 82 #[mv p (dcd x), .pointer (some ⟨bt, 0, none⟩), .pointer (some ⟨bf, 0, none⟩)] w fun e w' => e = .returned (.bool (invT p c x)) ∧ Below w.heap.size w w' := by
  have HQ1 := Lib.hid fun w => iback_any hc hx w
  have HQ2 := Lib.hid fun w => ibring_any hc hx w
  unfold invT
  generalize bckC p c x = B1 at *
  generalize bckC p x c = B2 at *
  have hltf : bf < w.heap.size := (Array.getElem?_eq_some_iff.1 hbf).1
  have hltt : bt < w.heap.size := (Array.getElem?_eq_some_iff.1 ht.1).1
  have hlts : bs < w.heap.size := (Array.getElem?_eq_some_iff.1 ht.2).1
  have hb0 : Below w.heap.size w (w.alloc (.cells (mcells p (dcd x)) 31)) := (Below.refl _ _).alloc (Nat.le_refl _) _
  have HB0 := Lib.hid hb0
  have HT := Lib.hid ht
  have HF := Lib.hid hbf
  have HX : Hid ((w.alloc (.cells (mcells p (dcd x)) 31)).heap[w.heap.size]? = some (.cells (mcells p (dcd x)) 31 (0, 0))) := Lib.hid (halloc_at _ _ _ rfl)
  obtain ⟨x0, x1, x2, x3, x4, x5⟩ := blk6 hbf
  have t0 := Joins.cell_of_block ht.1 0
  have s0 := Joins.cell_of_block ht.2 0
  simp only [List.getElem?_toArray, List.getElem?_cons_zero] at t0 s0
  simp only [mv, mcells] at HQ1 HQ2 HB0 HX ⊢
  clear hb0 ht hbf hc hx
  go_enter Try.func82, Try.ntmps82
  go_wp2_with fail
  refine wp_loop_rounds 3 ?_
  rw [rounds_succ]
  go_wp2_with fail
  refine (HQ1.out _).mono ?_
  rintro e w1 ⟨rfl, hb1⟩
  have HB1 := Lib.hid (HB0.out.trans (hb1.mono (by simp)))
  have hs1 := HB1.out.size
  obtain ⟨y0, y1, y2, y3, y4, y5⟩ := blk6 (bel_at HB1.out HF.out)
  obtain ⟨z0, z1, z2, z3, z4, z5⟩ := blk6 ((hb1.block w.heap.size (by simp)).trans HX.out)
  have u1 := Joins.cell_of_block (HT.out.below HB1.out).2 1
  simp only [List.getElem?_toArray, List.getElem?_cons_zero, List.getElem?_cons_succ] at u1
  clear hb1 x0 x1 x2 x3 x4 x5 t0 s0
  cases B1 with
  | false =>
    go_wp2_with fail
    go_ret
    exact ⟨rfl, HB1.out⟩
  | true =>
    go_wp2_with fail
    rw [rounds_succ]
    go_wp2_with fail
    refine (HQ2.out _).mono ?_
    rintro e w2 ⟨rfl, hb2⟩
    have HB2 := Lib.hid (HB1.out.trans (hb2.mono hs1))
    clear hb2
    cases B2 with
    | false =>
      go_wp2_with fail
      go_ret
      exact ⟨rfl, HB2.out⟩
    | true =>
      go_wp2_with fail
      rw [rounds_succ]
      go_wp2_with fail
      go_ret
      exact ⟨rfl, HB2.out⟩

set_option maxRecDepth 100000 in
set_option maxHeartbeats 1000000 in
theorem iinvG_any {p : Int} {K : List Nat} (hn : K.length ≤ 300) {Q : Nat → Bool} (q : Int) (s : Nat → Int) (b cE : Nat) (aE : Option Addr) (mo : Option Nat) (w : World) (hm : w.heap[b]? = some (.cells #[.slice aE K.length cE, .map mo] 48 (0, 0))) (hr : InRowM w aE (mE p K))
    (hq : ∀ z bt bs bf, TestsAt z bt bs → z.heap[bf]? = some (.cells (mcells q s) 31 (0, 0)) → TellsB z p K Q 82 #[] #[.pointer (some ⟨bt, 0, none⟩), .pointer (some ⟨bf, 0, none⟩)]) :
    Calls Try.prog 54 #[.pointer (some ⟨b, 0, none⟩), mv q s] w
      fun e w' => ∃ a cap, e = .returned (.slice a (K.filter Q).length cap) ∧ RdM w' w.heap.size a (mE p (K.filter Q)) ∧ Below w.heap.size w w' := by
  have eg : ∀ args w, (callFunc 82 args).run Try.prog w = .ok (.enter 82 args) w := enters_of Try.func82 (by kernel_rfl) rfl
  have HC := Lib.hid fun (z : World) (hz : Below w.heap.size w z) (bt bs bf : Nat) (h1 : TestsAt z bt bs) (h2 : z.heap[bf]? = some (.cells (mcells q s) 31 (0, 0))) => thatG_any hn eg b cE aE mo z (bel_at hz hm) (hr.below hz) (hq z bt bs bf h1 h2)
  clear hq hm hr eg
  simp only [mv, mcells] at HC ⊢
  go_enter Try.func54, Try.ntmps54
  go_wp2_with (go_at_call 81; go_in)
  refine (HC.out _ ?_ (w.heap.size + 1 + 1) (w.heap.size + 1) w.heap.size ?_ ?_).mono ?_
  · (repeat' (first | (with_reducible exact Below.refl _ _) | (with_reducible refine Below.alloc ?_ ?_ _) | (with_reducible refine Below.setCell ?_ ?_ _) | (with_reducible refine Below.drew ?_) | (with_reducible refine below_drewN ?_ _) | (with_reducible refine Below.trans ?_ (Below.mono (Hid.out (by assumption)) ?_)) | omega | (simp; done) | (simp; omega)))
  · exact ⟨by (repeat' (first | omega | (rw [hdrew]) | (with_reducible assumption) | (with_reducible exact Hid.out (by assumption)) | (with_reducible rfl) | ((with_reducible refine halloc_at _ _ _ ?_) <;> (first | (with_reducible rfl) | omega | (simp; done))) | (with_reducible refine chain6 ?_) | (with_reducible refine Eq.trans (hset_ne _ _ _ _ ?_) ?_) | (with_reducible refine Eq.trans (halloc_lt _ _ _ ?_) ?_) | (with_reducible refine Eq.trans (Below.block (Hid.out (by assumption)) _ ?_) ?_) | (simp; done) | (simp; omega))), by (repeat' (first | omega | (rw [hdrew]) | (with_reducible assumption) | (with_reducible exact Hid.out (by assumption)) | (with_reducible rfl) | ((with_reducible refine halloc_at _ _ _ ?_) <;> (first | (with_reducible rfl) | omega | (simp; done))) | (with_reducible refine chain6 ?_) | (with_reducible refine Eq.trans (hset_ne _ _ _ _ ?_) ?_) | (with_reducible refine Eq.trans (halloc_lt _ _ _ ?_) ?_) | (with_reducible refine Eq.trans (Below.block (Hid.out (by assumption)) _ ?_) ?_) | (simp; done) | (simp; omega)))⟩
  · (repeat' (first | omega | (rw [hdrew]) | (with_reducible assumption) | (with_reducible exact Hid.out (by assumption)) | (with_reducible rfl) | ((with_reducible refine halloc_at _ _ _ ?_) <;> (first | (with_reducible rfl) | omega | (simp; done))) | (with_reducible refine chain6 ?_) | (with_reducible refine Eq.trans (hset_ne _ _ _ _ ?_) ?_) | (with_reducible refine Eq.trans (halloc_lt _ _ _ ?_) ?_) | (with_reducible refine Eq.trans (Below.block (Hid.out (by assumption)) _ ?_) ?_) | (simp; done) | (simp; omega)))
  rintro e w3 ⟨a3, c3, rfl, hr3, hb3⟩
  have HR3 := Lib.hid hr3
  have HB3 := Lib.hid hb3
  clear hr3 hb3
  go_wp2_with fail
  go_ret
  refine ⟨a3, c3, rfl, HR3.out.mono (by simp; omega), ?_⟩
  (repeat' (first | (with_reducible exact Below.refl _ _) | (with_reducible refine Below.alloc ?_ ?_ _) | (with_reducible refine Below.setCell ?_ ?_ _) | (with_reducible refine Below.drew ?_) | (with_reducible refine below_drewN ?_ _) | (with_reducible refine Below.trans ?_ (Below.mono (Hid.out (by assumption)) ?_)) | omega | (simp; done) | (simp; omega)))

end Go.Proofs.Ytiogagaclhjdaaa
