/- Readers of pairs: the contracts of placeOfPair, pairAt, the methods of pairReader, and of firstAccepted at a reader of pairs. -/
import Derived.Test.YtiakoplfknkhmaaFac
import Derived.Deep.RegionHeld3
namespace Go.Proofs.Ytiakoplfknkhmaa
open Go Go.RowKit Go.Maps

theorem pof_any (p q : Nat) (hp : p < 5) (hq : q < 5) (w : World) :
    Calls Try.prog 107 #[.int .i64 (p : Int), .int .i64 (q : Int)] w fun e w' => e = .returned (.int .i64 ((p * 5 + q : Nat) : Int)) ∧ w' = w := by
  go_enter Try.func107, Try.ntmps107
  go_wp2_with fail
  go_ret
  exact ⟨ret_i (by simp), rfl⟩

theorem pat_any (c : Nat) (hc : c < 25) (w : World) :
    Calls Try.prog 106 #[.int .i64 (c : Int)] w fun e w' => e = .returned (.tuple #[.int .i64 ((c / 5 : Nat) : Int), .int .i64 ((c % 5 : Nat) : Int)]) ∧ w' = w := by
  go_enter Try.func106, Try.ntmps106
  go_wp2_with fail
  go_ret2
  exact ⟨by simp, rfl⟩

/-- The value of a reader of pairs. -/
abbrev pvV (g1 n1 c1 : Nat) (F : Int) (b1 g2 n2 c2 : Nat) (G : Int) (b2 : Nat) : Value :=
  .agg #[.slice (some ⟨g1, 0, none⟩) n1 c1, .int .i64 F, lastV b1, .slice (some ⟨g2, 0, none⟩) n2 c2, .int .i64 G, lastV b2]

/-- Two readers of points, ready to be asked together. -/
structure Rq (w : World) (g1 t1 b1 p : Nat) (L : List MapN) (S : List Int) (g2 t2 b2 m : Nat) (M : List MapN) (T : List Int) : Prop where
  fst : Rp w g1 t1 b1 p L S
  snd : Rp w g2 t2 b2 m M T
  len : M.length = L.length

theorem Rq.below {w w' : World} {g1 t1 b1 p : Nat} {L : List MapN} {S : List Int} {g2 t2 b2 m : Nat} {M : List MapN} {T : List Int} (h : Rq w g1 t1 b1 p L S g2 t2 b2 m M T) (hb : Below w.heap.size w w') : Rq w' g1 t1 b1 p L S g2 t2 b2 m M T :=
  ⟨h.fst.below hb, h.snd.below hb, h.len⟩

/-- The box of a reader of pairs, read later on. -/
theorem box6 {wb : World} {b : Nat} {x0 x1 x2 x3 x4 x5 : Value} {T : Nat} (h : wb.heap[b]? = some (.cells #[x0, x1, x2, x3, x4, x5] T (0, 0))) :
    (∀ z, Below wb.heap.size wb z → z.cell? ⟨b, 0, none⟩ = some x0) ∧ (∀ z, Below wb.heap.size wb z → z.cell? ⟨b, 1, none⟩ = some x1) ∧ (∀ z, Below wb.heap.size wb z → z.cell? ⟨b, 2, none⟩ = some x2) ∧
    (∀ z, Below wb.heap.size wb z → z.cell? ⟨b, 3, none⟩ = some x3) ∧ (∀ z, Below wb.heap.size wb z → z.cell? ⟨b, 4, none⟩ = some x4) ∧ (∀ z, Below wb.heap.size wb z → z.cell? ⟨b, 5, none⟩ = some x5) := by
  have hl := (Array.getElem?_eq_some_iff.1 h).1
  have r : ∀ i z, Below wb.heap.size wb z → z.cell? ⟨b, i, none⟩ = (#[x0, x1, x2, x3, x4, x5] : Array Value)[i]? := fun i z hz => Joins.cell_of_block ((hz.block _ hl).trans h) i
  exact ⟨r 0, r 1, r 2, r 3, r 4, r 5⟩

set_option maxHeartbeats 4000000 in
theorem qnext_any {g1 t1 b1 p : Nat} {L : List MapN} {S : List Int} {g2 t2 b2 m : Nat} {M : List MapN} {T : List Int} (c1 c2 : Nat) (F G : Int) (c i : Nat) (hc : c < 25) (h1 : c / 5 < p) (h2 : c % 5 < m) (hi : i < L.length) (w : World) (h : Rq w g1 t1 b1 p L S g2 t2 b2 m M T) :
    Calls Try.prog 103 #[pvV g1 p c1 F b1 g2 m c2 G b2, .int .i64 (c : Int), .int .i64 (i : Int)] w fun e w' => e = .returned (.int .i64 (nxC L M c i : Int)) ∧ Below w.heap.size w w' := by
  have HN1 := Lib.hid fun z (hb : Below w.heap.size w z) => inext_any h.fst.ok.p5 h.fst.ok.l6 c1 F (lastV b1) (c / 5) i h1 hi z (h.fst.tbl.below hb)
  have HN2 := Lib.hid fun z (hb : Below w.heap.size w z) => inext_any h.snd.ok.p5 h.snd.ok.l6 c2 G (lastV b2) (c % 5) i h2 (by rw [h.len]; exact hi) z (h.snd.tbl.below hb)
  have hy1 := (h.fst.ok.nx h1 hi).1
  have hy2 := (h.snd.ok.nx h2 (show i < M.length by rw [h.len]; exact hi)).1
  have := h.fst.ok.p5
  have := h.snd.ok.p5
  have HPA := Lib.hid fun z => pat_any c hc z
  have HPO := Lib.hid fun z => pof_any (nxP L (c / 5) i) (nxP M (c % 5) i) (by omega) (by omega) z
  have HE : Hid (nxC L M c i = nxP L (c / 5) i * 5 + nxP M (c % 5) i) := Lib.hid rfl
  rw [HE.out]
  clear h
  generalize nxP L (c / 5) i = Y1 at *
  generalize nxP M (c % 5) i = Y2 at *
  generalize c / 5 = x at *
  generalize c % 5 = y at *
  obtain ⟨wb, hwb⟩ : ∃ wb, wb = w.alloc (.cells #[.slice (some ⟨g1, 0, none⟩) p c1, .int .i64 F, lastV b1, .slice (some ⟨g2, 0, none⟩) m c2, .int .i64 G, lastV b2] 72) := ⟨_, rfl⟩
  have hbx : wb.heap[w.heap.size]? = some (.cells #[.slice (some ⟨g1, 0, none⟩) p c1, .int .i64 F, lastV b1, .slice (some ⟨g2, 0, none⟩) m c2, .int .i64 G, lastV b2] 72 (0, 0)) := by rw [hwb]; exact halloc_at _ _ _ rfl
  have HWB : Hid (Below w.heap.size w wb) := Lib.hid (by rw [hwb]; exact (Below.refl _ _).alloc (Nat.le_refl _) _)
  have hwz : w.heap.size < wb.heap.size := (Array.getElem?_eq_some_iff.1 hbx).1
  obtain ⟨r0, r1, r2, r3, r4, r5⟩ := box6 hbx
  clear hbx
  go_enter Try.func103, Try.ntmps103
  go_wp2_with fail
  rw [← hwb]
  clear hwb
  refine (HPA.out _).mono ?_
  rintro e w1 ⟨rfl, rfl⟩
  go_wp2_with fail
  go_region_held3 (fun w' => Below w1.heap.size w1 w') (first | (with_reducible assumption) | ((repeat' (first | (with_reducible exact Below.refl _ _) | (with_reducible refine Below.alloc ?_ ?_ _) | (with_reducible refine Below.setCell ?_ ?_ _) | (with_reducible refine Below.drew ?_) | (with_reducible refine below_drewN ?_ _) | (with_reducible refine Below.trans ?_ (Below.mono (Hid.out (by assumption)) ?_)) | omega | (simp; done) | (simp; omega))); done)) (first | (go_at_call 99; (with_reducible refine (HN1.out _ (by (repeat' (first | (with_reducible exact Below.refl _ _) | (with_reducible refine Below.alloc ?_ ?_ _) | (with_reducible refine Below.setCell ?_ ?_ _) | (with_reducible refine Below.drew ?_) | (with_reducible refine below_drewN ?_ _) | (with_reducible refine Below.trans ?_ (Below.mono (Hid.out (by assumption)) ?_)) | omega | (simp; done) | (simp; omega))))).mono ?_); rintro e w2 ⟨rfl, hb⟩; have Hb := Lib.hid hb; have hz := hb.size; (try simp at hz); clear hb) | (go_at_call 99; (with_reducible refine (HN2.out _ (by (repeat' (first | (with_reducible exact Below.refl _ _) | (with_reducible refine Below.alloc ?_ ?_ _) | (with_reducible refine Below.setCell ?_ ?_ _) | (with_reducible refine Below.drew ?_) | (with_reducible refine below_drewN ?_ _) | (with_reducible refine Below.trans ?_ (Below.mono (Hid.out (by assumption)) ?_)) | omega | (simp; done) | (simp; omega))))).mono ?_); rintro e w2 ⟨rfl, hb⟩; have Hb := Lib.hid hb; have hz := hb.size; (try simp at hz); clear hb) | (go_at_call 107; (with_reducible refine (HPO.out _).mono ?_); rintro e w9 ⟨rfl, rfl⟩))
  all_goals go_wp2_with fail
  all_goals go_ret
  all_goals
    refine ⟨rfl, ?_⟩
    (repeat' (first | (with_reducible exact Below.refl _ _) | (with_reducible refine Below.alloc ?_ ?_ _) | (with_reducible refine Below.setCell ?_ ?_ _) | (with_reducible refine Below.drew ?_) | (with_reducible refine below_drewN ?_ _) | (with_reducible refine Below.trans ?_ (Below.mono (Hid.out (by assumption)) ?_)) | omega | (simp; done) | (simp; omega)))

set_option maxHeartbeats 4000000 in
theorem qacc_any {g1 t1 b1 p : Nat} {L : List MapN} {S : List Int} {g2 t2 b2 m : Nat} {M : List MapN} {T : List Int} (c1 c2 : Nat) (F G : Int) (c : Nat) (hc : c < 25) (w : World) (h : Rq w g1 t1 b1 p L S g2 t2 b2 m M T) :
    Calls Try.prog 102 #[pvV g1 p c1 F b1 g2 m c2 G b2, .int .i64 (c : Int)] w fun e w' => e = .returned (.bool (accC S T c)) ∧ Below w.heap.size w w' := by
  have HN1 := Lib.hid fun z (hb : Below w.heap.size w z) => iacts_any L S h.fst.s g1 p c1 F b1 (c / 5) z (h.fst.hol.below hb)
  have HN2 := Lib.hid fun z (hb : Below w.heap.size w z) => iacts_any M T h.snd.s g2 m c2 G b2 (c % 5) z (h.snd.hol.below hb)
  have HPA := Lib.hid fun z => pat_any c hc z
  have HE : Hid (accC S T c = (lastB S (c / 5) != lastB T (c % 5))) := Lib.hid rfl
  rw [HE.out]
  clear h
  generalize lastB S (c / 5) = Y1 at *
  generalize lastB T (c % 5) = Y2 at *
  generalize c / 5 = x at *
  generalize c % 5 = y at *
  obtain ⟨wb, hwb⟩ : ∃ wb, wb = w.alloc (.cells #[.slice (some ⟨g1, 0, none⟩) p c1, .int .i64 F, lastV b1, .slice (some ⟨g2, 0, none⟩) m c2, .int .i64 G, lastV b2] 72) := ⟨_, rfl⟩
  have hbx : wb.heap[w.heap.size]? = some (.cells #[.slice (some ⟨g1, 0, none⟩) p c1, .int .i64 F, lastV b1, .slice (some ⟨g2, 0, none⟩) m c2, .int .i64 G, lastV b2] 72 (0, 0)) := by rw [hwb]; exact halloc_at _ _ _ rfl
  have HWB : Hid (Below w.heap.size w wb) := Lib.hid (by rw [hwb]; exact (Below.refl _ _).alloc (Nat.le_refl _) _)
  have hwz : w.heap.size < wb.heap.size := (Array.getElem?_eq_some_iff.1 hbx).1
  obtain ⟨r0, r1, r2, r3, r4, r5⟩ := box6 hbx
  clear hbx
  go_enter Try.func102, Try.ntmps102
  go_wp2_with fail
  rw [← hwb]
  clear hwb
  refine (HPA.out _).mono ?_
  rintro e w1 ⟨rfl, rfl⟩
  go_wp2_with fail
  go_region_held3 (fun w' => Below w1.heap.size w1 w') (first | (with_reducible assumption) | ((repeat' (first | (with_reducible exact Below.refl _ _) | (with_reducible refine Below.alloc ?_ ?_ _) | (with_reducible refine Below.setCell ?_ ?_ _) | (with_reducible refine Below.drew ?_) | (with_reducible refine below_drewN ?_ _) | (with_reducible refine Below.trans ?_ (Below.mono (Hid.out (by assumption)) ?_)) | omega | (simp; done) | (simp; omega))); done)) (first | (go_at_call 98; (with_reducible refine (HN1.out _ (by (repeat' (first | (with_reducible exact Below.refl _ _) | (with_reducible refine Below.alloc ?_ ?_ _) | (with_reducible refine Below.setCell ?_ ?_ _) | (with_reducible refine Below.drew ?_) | (with_reducible refine below_drewN ?_ _) | (with_reducible refine Below.trans ?_ (Below.mono (Hid.out (by assumption)) ?_)) | omega | (simp; done) | (simp; omega))))).mono ?_); rintro e w2 ⟨rfl, hb⟩; have Hb := Lib.hid hb; have hz := hb.size; (try simp at hz); clear hb) | (go_at_call 98; (with_reducible refine (HN2.out _ (by (repeat' (first | (with_reducible exact Below.refl _ _) | (with_reducible refine Below.alloc ?_ ?_ _) | (with_reducible refine Below.setCell ?_ ?_ _) | (with_reducible refine Below.drew ?_) | (with_reducible refine below_drewN ?_ _) | (with_reducible refine Below.trans ?_ (Below.mono (Hid.out (by assumption)) ?_)) | omega | (simp; done) | (simp; omega))))).mono ?_); rintro e w2 ⟨rfl, hb⟩; have Hb := Lib.hid hb; have hz := hb.size; (try simp at hz); clear hb))
  all_goals go_wp2_with fail
  all_goals go_ret
  all_goals
    refine ⟨rfl, ?_⟩
    (repeat' (first | (with_reducible exact Below.refl _ _) | (with_reducible refine Below.alloc ?_ ?_ _) | (with_reducible refine Below.setCell ?_ ?_ _) | (with_reducible refine Below.drew ?_) | (with_reducible refine below_drewN ?_ _) | (with_reducible refine Below.trans ?_ (Below.mono (Hid.out (by assumption)) ?_)) | omega | (simp; done) | (simp; omega)))

set_option maxHeartbeats 4000000 in
theorem qstart_any (g1 p c1 b1 g2 m c2 b2 F G : Nat) (hF : F < 5) (hG : G < 5) (w : World) :
    Calls Try.prog 105 #[pvV g1 p c1 (F : Int) b1 g2 m c2 (G : Int) b2] w fun e w' => e = .returned (.int .i64 ((F * 5 + G : Nat) : Int)) ∧ Below w.heap.size w w' := by
  have HN1 := Lib.hid fun z => istart_any g1 p c1 (F : Int) b1 z
  have HN2 := Lib.hid fun z => istart_any g2 m c2 (G : Int) b2 z
  have HPO := Lib.hid fun z => pof_any F G hF hG z
  obtain ⟨wb, hwb⟩ : ∃ wb, wb = w.alloc (.cells #[.slice (some ⟨g1, 0, none⟩) p c1, .int .i64 (F : Int), lastV b1, .slice (some ⟨g2, 0, none⟩) m c2, .int .i64 (G : Int), lastV b2] 72) := ⟨_, rfl⟩
  have hbx : wb.heap[w.heap.size]? = some (.cells #[.slice (some ⟨g1, 0, none⟩) p c1, .int .i64 (F : Int), lastV b1, .slice (some ⟨g2, 0, none⟩) m c2, .int .i64 (G : Int), lastV b2] 72 (0, 0)) := by rw [hwb]; exact halloc_at _ _ _ rfl
  have HWB : Hid (Below w.heap.size w wb) := Lib.hid (by rw [hwb]; exact (Below.refl _ _).alloc (Nat.le_refl _) _)
  have hwz : w.heap.size < wb.heap.size := (Array.getElem?_eq_some_iff.1 hbx).1
  obtain ⟨r0, r1, r2, r3, r4, r5⟩ := box6 hbx
  clear hbx
  go_enter Try.func105, Try.ntmps105
  go_wp2_with fail
  rw [← hwb]
  clear hwb
  go_region_held3 (fun w' => Below wb.heap.size wb w') (first | (with_reducible assumption) | ((repeat' (first | (with_reducible exact Below.refl _ _) | (with_reducible refine Below.alloc ?_ ?_ _) | (with_reducible refine Below.setCell ?_ ?_ _) | (with_reducible refine Below.drew ?_) | (with_reducible refine below_drewN ?_ _) | (with_reducible refine Below.trans ?_ (Below.mono (Hid.out (by assumption)) ?_)) | omega | (simp; done) | (simp; omega))); done)) (first | (go_at_call 101; (with_reducible refine (HN1.out _).mono ?_); rintro e w2 ⟨rfl, hb⟩; have Hb := Lib.hid hb; have hz := hb.size; (try simp at hz); clear hb) | (go_at_call 101; (with_reducible refine (HN2.out _).mono ?_); rintro e w2 ⟨rfl, hb⟩; have Hb := Lib.hid hb; have hz := hb.size; (try simp at hz); clear hb) | (go_at_call 107; (with_reducible refine (HPO.out _).mono ?_); rintro e w9 ⟨rfl, rfl⟩))
  all_goals go_wp2_with fail
  all_goals go_ret
  all_goals
    refine ⟨rfl, ?_⟩
    (repeat' (first | (with_reducible exact Below.refl _ _) | (with_reducible refine Below.alloc ?_ ?_ _) | (with_reducible refine Below.setCell ?_ ?_ _) | (with_reducible refine Below.drew ?_) | (with_reducible refine below_drewN ?_ _) | (with_reducible refine Below.trans ?_ (Below.mono (Hid.out (by assumption)) ?_)) | omega | (simp; done) | (simp; omega)))

theorem qnumb_any {g1 t1 b1 p : Nat} {L : List MapN} {S : List Int} {g2 t2 b2 m : Nat} {M : List MapN} {T : List Int} (c1 c2 : Nat) (F G : Int) (w : World) (h : Rq w g1 t1 b1 p L S g2 t2 b2 m M T) :
    Calls Try.prog 104 #[pvV g1 p c1 F b1 g2 m c2 G b2] w fun e w' => e = .returned (.int .i64 (L.length : Int)) ∧ Below w.heap.size w w' := by
  have HN1 := Lib.hid fun z (hb : Below w.heap.size w z) => inumb_any h.fst.ok.p1 h.fst.ok.l6 c1 F b1 z (h.fst.tbl.below hb)
  clear h
  go_enter Try.func104, Try.ntmps104
  go_wp2_with fail
  refine (HN1.out _ (by (repeat' (first | (with_reducible exact Below.refl _ _) | (with_reducible refine Below.alloc ?_ ?_ _) | (with_reducible refine Below.setCell ?_ ?_ _) | (with_reducible refine Below.drew ?_) | (with_reducible refine below_drewN ?_ _) | (with_reducible refine Below.trans ?_ (Below.mono (Hid.out (by assumption)) ?_)) | omega | (simp; done) | (simp; omega))))).mono ?_
  rintro e w1 ⟨rfl, hb⟩
  have HB := Lib.hid hb
  clear hb
  go_wp2_with fail
  go_ret
  refine ⟨rfl, ?_⟩
  (repeat' (first | (with_reducible exact Below.refl _ _) | (with_reducible refine Below.alloc ?_ ?_ _) | (with_reducible refine Below.setCell ?_ ?_ _) | (with_reducible refine Below.drew ?_) | (with_reducible refine below_drewN ?_ _) | (with_reducible refine Below.trans ?_ (Below.mono (Hid.out (by assumption)) ?_)) | omega | (simp; done) | (simp; omega)))

theorem meth_qr (g1 n1 c1 : Nat) (F : Int) (b1 g2 n2 c2 : Nat) (G : Int) (b2 : Nat) :
    (∀ w, (method 223 72 (pvV g1 n1 c1 F b1 g2 n2 c2 G b2) "loop.example/g01359/impl.start").run Try.prog w = .ok (105, pvV g1 n1 c1 F b1 g2 n2 c2 G b2) w) ∧
    (∀ w, (method 223 72 (pvV g1 n1 c1 F b1 g2 n2 c2 G b2) "loop.example/g01359/impl.numbers").run Try.prog w = .ok (104, pvV g1 n1 c1 F b1 g2 n2 c2 G b2) w) ∧
    (∀ w, (method 223 72 (pvV g1 n1 c1 F b1 g2 n2 c2 G b2) "loop.example/g01359/impl.next").run Try.prog w = .ok (103, pvV g1 n1 c1 F b1 g2 n2 c2 G b2) w) ∧
    (∀ w, (method 223 72 (pvV g1 n1 c1 F b1 g2 n2 c2 G b2) "loop.example/g01359/impl.accepts").run Try.prog w = .ok (102, pvV g1 n1 c1 F b1 g2 n2 c2 G b2) w) :=
  ⟨fun w => by kernel_rfl, fun w => by kernel_rfl, fun w => by kernel_rfl, fun w => by kernel_rfl⟩

/-- Places of pairs of points of p and m. -/
def plQ (p m c : Nat) : Prop := c / 5 < p ∧ c % 5 < m

theorem ifq_any {g1 t1 b1 p : Nat} {L : List MapN} {S : List Int} {g2 t2 b2 m : Nat} {M : List MapN} {T : List Int} (c1 c2 F G : Nat) (hF : F < p) (hG : G < m) (w : World) (h : Rq w g1 t1 b1 p L S g2 t2 b2 m M T) :
    Calls Try.prog 55 #[.iface 72 (pvV g1 p c1 (F : Int) b1 g2 m c2 (G : Int) b2)] w (RetRow w.heap.size (waW (aprt L S M T F G)) (waC (aprt L S M T F G)) w) := by
  obtain ⟨m1, m2, m3, m4⟩ := meth_qr g1 p c1 (F : Int) b1 g2 m c2 (G : Int) b2
  have hp5 := h.fst.ok.p5
  have hm5 := h.snd.ok.p5
  have h25 : ∀ x, plQ p m x → x < 25 := fun x hx => by have h1 := hx.1; omega
  rw [← aprt_code S T h.fst.ok h.snd.ok h.len hF hG]
  exact ifa_any (Pl := plQ p m) w m1 m2 m3 m4 (enters_of Try.func105 (by kernel_rfl) rfl) (enters_of Try.func104 (by kernel_rfl) rfl) (enters_of Try.func103 (by kernel_rfl) rfl)
    (enters_of Try.func102 (by kernel_rfl) rfl)
    (fun z _ => qstart_any g1 p c1 b1 g2 m c2 b2 F G (by omega) (by omega) z) (fun z hb => qnumb_any c1 c2 (F : Int) (G : Int) z (h.below hb))
    (fun z hb c i hc hi => qnext_any c1 c2 (F : Int) (G : Int) c i (h25 c hc) hc.1 hc.2 hi z (h.below hb)) (fun z hb c hc => qacc_any c1 c2 (F : Int) (G : Int) c (h25 c hc) z (h.below hb))
    ⟨by omega, by omega⟩ (fun x i hi hx => by
      have a1 := (h.fst.ok.nx hx.1 hi).1
      have a2 := (h.snd.ok.nx hx.2 (show i < M.length by rw [h.len]; exact hi)).1
      unfold plQ nxC
      omega) h25 h.fst.ok.l6

end Go.Proofs.Ytiakoplfknkhmaa
