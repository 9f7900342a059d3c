/- The contracts of impl.firstAccepted at any reader, and of (pointReader).pointsReached. -/
import Derived.Test.YtiakoplfknkhmaaPlr
import Derived.Test.YtiakoplfknkhmaaRdo
import Derived.Shelf.Abstract
namespace Go.Proofs.Ytiakoplfknkhmaa
open Go Go.RowKit Go.Maps

/-- The word of an answer, and its code. -/
def waW (o : Option (List Int)) : List Int := o.getD []
def waC (o : Option (List Int)) : Int := if o.isSome then 0 else 4

theorem getD_some {Q : List (Nat × List Int)} {j : Nat} (hj : j < Q.length) : Q[j]? = some (Q.getD j (0, [])) := by
  rw [List.getD_eq_getElem?_getD, List.getElem?_eq_getElem hj]; rfl

set_option maxRecDepth 100000 in
set_option maxHeartbeats 4000000 in
theorem ifa_any {T : TypeId} {v : Value} {fs fb fx fa k s : Nat} {nx : Nat → Nat → Nat} {Pl : Nat → Prop} {acc : Nat → Bool} (w : World)
    (hms : ∀ w, (method 223 T v "loop.example/g01359/impl.start").run Try.prog w = .ok (fs, v) w) (hmb : ∀ w, (method 223 T v "loop.example/g01359/impl.numbers").run Try.prog w = .ok (fb, v) w)
    (hmx : ∀ w, (method 223 T v "loop.example/g01359/impl.next").run Try.prog w = .ok (fx, v) w) (hma : ∀ w, (method 223 T v "loop.example/g01359/impl.accepts").run Try.prog w = .ok (fa, v) w)
    (es : ∀ args w, (callFunc fs args).run Try.prog w = .ok (.enter fs args) w) (eb : ∀ args w, (callFunc fb args).run Try.prog w = .ok (.enter fb args) w) (ex : ∀ args w, (callFunc fx args).run Try.prog w = .ok (.enter fx args) w)
    (ea : ∀ args w, (callFunc fa args).run Try.prog w = .ok (.enter fa args) w)
    (hS : ∀ z, Below w.heap.size w z → Calls Try.prog fs #[v] z fun e w' => e = .returned (.int .i64 (s : Int)) ∧ Below z.heap.size z w')
    (hB : ∀ z, Below w.heap.size w z → Calls Try.prog fb #[v] z fun e w' => e = .returned (.int .i64 (k : Int)) ∧ Below z.heap.size z w')
    (hX : ∀ z, Below w.heap.size w z → ∀ c i, Pl c → i < k → Calls Try.prog fx #[v, .int .i64 (c : Int), .int .i64 (i : Int)] z fun e w' => e = .returned (.int .i64 (nx c i : Int)) ∧ Below z.heap.size z w')
    (hA : ∀ z, Below w.heap.size w z → ∀ c, Pl c → Calls Try.prog fa #[v, .int .i64 (c : Int)] z fun e w' => e = .returned (.bool (acc c)) ∧ Below z.heap.size z w')
    (h0 : Pl s) (hc : ∀ x i, i < k → Pl x → Pl (nx x i)) (h25 : ∀ x, Pl x → x < 25) (hk : k ≤ 6) :
    Calls Try.prog 55 #[.iface T v] w (RetRow w.heap.size (waW (bfirst acc (brun nx k s 25))) (waC (bfirst acc (brun nx k s 25))) w) := by
  have HPL := Lib.hid (ipl_any (Pl := Pl) w hms hmb hmx es eb ex hS hB hX h0 hc h25 hk)
  have hok := brun_ok (P := Pl) h0 hc 25
  have HLE : Hid ((brun nx k s 25).length ≤ 25) := Lib.hid (hok.len id h25 (fun _ _ _ _ e => e))
  have HPC : Hid (∀ j, j < (brun nx k s 25).length → Pl ((brun nx k s 25).getD j (0, [])).1 ∧ ((brun nx k s 25).getD j (0, [])).2.length ≤ 25) := Lib.hid fun j hj => by
    have hm : (brun nx k s 25).getD j (0, []) ∈ brun nx k s 25 := List.mem_of_getElem? (getD_some hj)
    exact ⟨hok.all _ hm, hok.wl _ hm⟩
  have HA := Lib.hid hA
  clear hms hmb hmx es eb ex hS hB hX h0 hc h25 hok hA
  generalize brun nx k s 25 = Q at *
  go_enter Try.func55, Try.ntmps55
  go_wp2_with fail
  refine HPL.out.mono ?_
  rintro e wq ⟨vq, cs, rfl, hplc, hb⟩
  have hle := HLE.out
  obtain ⟨aq, cq, rfl⟩ : ∃ a c, vq = .slice a Q.length c := by
    rcases hplc.own.2 with ⟨h, h0⟩ | ⟨g, cap, cur, h, _⟩
    · exact ⟨none, 0, by rw [h, h0]⟩
    · exact ⟨_, _, h⟩
  have hzq := hb.size
  have HBQ := Lib.hid hb
  have HPQ := Lib.hid hplc
  clear hb hplc
  go_wp2_with fail
  go_loopw [5, 9] (fun _ z wr => ∃ j : Nat, j ≤ Q.length ∧ z = .int .i64 j ∧ (∀ i, i < j → acc (Q.getD i (0, [])).1 = false) ∧ Below wq.heap.size wq wr) (fun _ z _ => Q.length - (intOf z).toNat)
  case atStart => exact ⟨0, by omega, rfl, fun i hi => by omega, Below.refl _ _⟩
  case round =>
    obtain ⟨j, hj, rfl, hno, hb⟩ := hrel
    have HBR := Lib.hid hb
    have HNO := Lib.hid hno
    have hsz := hb.size
    have HPR := Lib.hid (HPQ.out.below hb)
    clear hb hno
    by_cases hjl : j < Q.length
    · have hjl' : (j : Int) < (Q.length : Int) := by omega
      obtain ⟨g, cap, e, hgl, f0, f1⟩ := HPR.out.at_ hjl
      injection e with e _ ecap
      subst e
      obtain ⟨hPc, hwl⟩ := HPC.out j hjl
      have hrow := HPR.out.row j hjl
      have HGS := Lib.hid (getD_some hjl)
      have HAC := Lib.hid fun z hz => HA.out z hz _ hPc
      have HFN : Hid (acc (Q.getD j (0, [])).1 = false → ∀ i, i < j + 1 → acc (Q.getD i (0, [])).1 = false) := Lib.hid fun h i hi => by
        rcases Nat.lt_succ_iff_lt_or_eq.1 hi with h2 | h2
        · exact HNO.out i h2
        · subst h2; exact h
      have HFY : Hid (acc (Q.getD j (0, [])).1 = true → bfirst acc Q = some (Q.getD j (0, [])).2) := Lib.hid fun h => bfirst_at HGS.out h (fun i z hi hz => by
        have := HNO.out i hi
        rw [getD_some (by omega)] at hz
        injection hz with hz
        rw [← hz]; exact this)
      generalize Q.getD j (0, []) = y at *
      obtain ⟨c, wd⟩ := y
      simp only [] at f0 hPc hwl hrow HAC HFN HFY
      obtain ⟨ax, cx, hu, hrd⟩ := own_rd hrow (by omega)
      rw [hu] at f1
      have HRD := Lib.hid hrd
      clear hrow hu hrd HGS hPc ecap
      cases hacc : acc c
      · have HF := Lib.hid (HFN.out hacc)
        rw [hacc] at HAC
        have HAC := Lib.hid HAC.out
        clear hacc
        go_wp2_with fail
        refine (HAC.out _ (by (repeat' (first | (with_reducible exact Below.refl _ _) | (with_reducible refine Below.alloc ?_ ?_ _) | (with_reducible refine Below.setCell ?_ ?_ _) | (with_reducible refine Below.drew ?_) | (with_reducible refine below_drewN ?_ _) | (with_reducible refine Below.trans ?_ (Below.mono (Hid.out (by assumption)) ?_)) | omega | (simp; done) | (simp; omega))))).mono ?_
        rintro e w2 ⟨rfl, hb⟩
        have hz2 := hb.size
        have HB2 := Lib.hid hb
        (try simp at hz2)
        clear hb
        go_wp2_with fail
        go_roundw
        case rel => exact ⟨j + 1, by omega, by go_num, HF.out, by (repeat' (first | (with_reducible exact Below.refl _ _) | (with_reducible refine Below.alloc ?_ ?_ _) | (with_reducible refine Below.setCell ?_ ?_ _) | (with_reducible refine Below.drew ?_) | (with_reducible refine below_drewN ?_ _) | (with_reducible refine Below.trans ?_ (Below.mono (Hid.out (by assumption)) ?_)) | omega | (simp; done) | (simp; omega)))⟩
        case measure => simp [intOf]; omega
      · have HF := Lib.hid (HFY.out hacc)
        rw [hacc] at HAC
        have HAC := Lib.hid HAC.out
        clear hacc
        go_wp2_with fail
        refine (HAC.out _ (by (repeat' (first | (with_reducible exact Below.refl _ _) | (with_reducible refine Below.alloc ?_ ?_ _) | (with_reducible refine Below.setCell ?_ ?_ _) | (with_reducible refine Below.drew ?_) | (with_reducible refine below_drewN ?_ _) | (with_reducible refine Below.trans ?_ (Below.mono (Hid.out (by assumption)) ?_)) | omega | (simp; done) | (simp; omega))))).mono ?_
        rintro e w2 ⟨rfl, hb⟩
        have hz2 := hb.size
        have hbx := (hb.block wr.heap.size (by simp)).trans (halloc_at _ _ _ rfl)
        have g1 := Joins.cell_of_block hbx 1
        simp only [List.getElem?_toArray, List.getElem?_cons_zero, List.getElem?_cons_succ] at g1
        have HB2 := Lib.hid hb
        (try simp at hz2)
        clear hb hbx
        go_wp2_with fail
        go_ret2
        rw [HF.out]
        refine ⟨ax, cx, rfl, HRD.out.below ?_, ?_⟩
        · (repeat' (first | (with_reducible exact Below.refl _ _) | (with_reducible refine Below.alloc ?_ ?_ _) | (with_reducible refine Below.setCell ?_ ?_ _) | (with_reducible refine Below.drew ?_) | (with_reducible refine below_drewN ?_ _) | (with_reducible refine Below.trans ?_ (Below.mono (Hid.out (by assumption)) ?_)) | omega | (simp; done) | (simp; omega)))
        · (repeat' (first | (with_reducible exact Below.refl _ _) | (with_reducible refine Below.alloc ?_ ?_ _) | (with_reducible refine Below.setCell ?_ ?_ _) | (with_reducible refine Below.drew ?_) | (with_reducible refine below_drewN ?_ _) | (with_reducible refine Below.trans ?_ (Below.mono (Hid.out (by assumption)) ?_)) | omega | (simp; done) | (simp; omega)))
    · have HF := Lib.hid (bfirst_none (acc := acc) (Q := Q) (fun i z hz => by
        have hi := (List.getElem?_eq_some_iff.1 hz).1
        have := HNO.out i (by omega)
        rw [getD_some hi] at hz
        injection hz with hz
        rw [← hz]; exact this))
      have hjl' : ¬ ((j : Int) < (Q.length : Int)) := by omega
      go_wp2_with fail
      go_ret2
      rw [HF.out]
      refine ⟨none, 0, rfl, ⟨by simp [waW], Or.inl rfl⟩, ?_⟩
      (repeat' (first | (with_reducible exact Below.refl _ _) | (with_reducible refine Below.alloc ?_ ?_ _) | (with_reducible refine Below.setCell ?_ ?_ _) | (with_reducible refine Below.drew ?_) | (with_reducible refine below_drewN ?_ _) | (with_reducible refine Below.trans ?_ (Below.mono (Hid.out (by assumption)) ?_)) | omega | (simp; done) | (simp; omega)))

theorem info_int7 : (Try.prog.info? 2).map (fun i => (i.zero, i.size, i.bytes)) = some (some (.int .i64 0), 1, 8) := info_int

/-- A number as an element of a list. -/
def natL (l : List Nat) : List Int := l.map fun (x : Nat) => (x : Int)

theorem natL_snoc (l : List Nat) (x : Nat) : natL (l ++ [x]) = natL l ++ [(x : Int)] := by unfold natL; rw [List.map_append]; rfl

theorem meth_pr (gr n cr : Nat) (F : Int) (bx : Nat) :
    (∀ w, (method 223 60 (rdV gr n cr F bx) "loop.example/g01359/impl.start").run Try.prog w = .ok (101, rdV gr n cr F bx) w) ∧
    (∀ w, (method 223 60 (rdV gr n cr F bx) "loop.example/g01359/impl.numbers").run Try.prog w = .ok (100, rdV gr n cr F bx) w) ∧
    (∀ w, (method 223 60 (rdV gr n cr F bx) "loop.example/g01359/impl.next").run Try.prog w = .ok (99, rdV gr n cr F bx) w) ∧
    (∀ w, (method 223 60 (rdV gr n cr F bx) "loop.example/g01359/impl.accepts").run Try.prog w = .ok (98, rdV gr n cr F bx) w) :=
  ⟨fun w => by kernel_rfl, fun w => by kernel_rfl, fun w => by kernel_rfl, fun w => by kernel_rfl⟩

/-- A reader of points, ready to be asked. -/
structure Rp (w : World) (gr gt bx p : Nat) (L : List MapN) (S : List Int) : Prop where
  ok : Lok L p
  tbl : Tbl w gr gt p L
  hol : Hol w bx L S
  s : S.length ≤ 1048576

theorem Rp.below {w w' : World} {gr gt bx p : Nat} {L : List MapN} {S : List Int} (h : Rp w gr gt bx p L S) (hb : Below w.heap.size w w') : Rp w' gr gt bx p L S := ⟨h.ok, h.tbl.below hb, h.hol.below hb, h.s⟩

theorem ipp_any {gr gt bx p : Nat} {L : List MapN} {S : List Int} (cr F : Nat) (hF : F < p) (w : World) (h : Rp w gr gt bx p L S) :
    Calls Try.prog 69 #[.iface 60 (rdV gr p cr (F : Int) bx)] w (RetPl w.heap.size (rchP L F) w) := by
  obtain ⟨m1, m2, m3, _⟩ := meth_pr gr p cr (F : Int) bx
  have hp5 := h.ok.p5
  exact ipl_any (Pl := fun x => x < p) w m1 m2 m3 (enters_of Try.func101 (by kernel_rfl) rfl) (enters_of Try.func100 (by kernel_rfl) rfl) (enters_of Try.func99 (by kernel_rfl) rfl)
    (fun z _ => istart_any gr p cr (F : Int) bx z) (fun z hb => inumb_any h.ok.p1 h.ok.l6 cr (F : Int) bx z (h.tbl.below hb))
    (fun z hb c i hc hi => inext_any hp5 h.ok.l6 cr (F : Int) (lastV bx) c i hc hi z (h.tbl.below hb)) hF (fun x i hi hx => (h.ok.nx hx hi).1) (fun x hx => Nat.lt_of_lt_of_le hx (by omega)) h.ok.l6

theorem ifp_any {gr gt bx p : Nat} {L : List MapN} {S : List Int} (cr F : Nat) (hF : F < p) (w : World) (h : Rp w gr gt bx p L S) :
    Calls Try.prog 55 #[.iface 60 (rdV gr p cr (F : Int) bx)] w (RetRow w.heap.size (waW (bfirst (lastB S) (rchP L F))) (waC (bfirst (lastB S) (rchP L F))) w) := by
  obtain ⟨m1, m2, m3, m4⟩ := meth_pr gr p cr (F : Int) bx
  have hp5 := h.ok.p5
  exact ifa_any (Pl := fun x => x < p) w m1 m2 m3 m4 (enters_of Try.func101 (by kernel_rfl) rfl) (enters_of Try.func100 (by kernel_rfl) rfl) (enters_of Try.func99 (by kernel_rfl) rfl)
    (enters_of Try.func98 (by kernel_rfl) rfl)
    (fun z _ => istart_any gr p cr (F : Int) bx z) (fun z hb => inumb_any h.ok.p1 h.ok.l6 cr (F : Int) bx z (h.tbl.below hb))
    (fun z hb c i hc hi => inext_any hp5 h.ok.l6 cr (F : Int) (lastV bx) c i hc hi z (h.tbl.below hb)) (fun z hb c _ => iacts_any L S h.s gr p cr (F : Int) bx c z (h.hol.below hb)) hF (fun x i hi hx => (h.ok.nx hx hi).1) (fun x hx => Nat.lt_of_lt_of_le hx (by omega)) h.ok.l6

set_option maxRecDepth 100000 in
set_option maxHeartbeats 4000000 in
theorem iprs_any {gr gt bx p : Nat} {L : List MapN} {S : List Int} (cr F : Nat) (hF : F < p) (w : World) (h : Rp w gr gt bx p L S) :
    Calls Try.prog 46 #[rdV gr p cr (F : Int) bx] w (RetOwn w.heap.size (natL (ptsP L F)) w) := by
  have HPL := Lib.hid fun wx (hb : Below w.heap.size w wx) => ipp_any cr F hF wx (h.below hb)
  have HLE : Hid ((rchP L F).length ≤ 25) := Lib.hid (Nat.le_trans (rchP_len h.ok hF 25) (by have := h.ok.p5; omega))
  obtain ⟨Q, hQ⟩ : ∃ Q, Q = rchP L F := ⟨_, rfl⟩
  have hpt : ptsP L F = Q.map Prod.fst := by rw [hQ]; rfl
  rw [hpt]
  rw [← hQ] at HPL HLE
  clear hQ hpt h
  go_enter Try.func46, Try.ntmps46
  go_wp2_with fail
  refine (HPL.out _ (by (repeat' (first | (with_reducible exact Below.refl _ _) | (with_reducible refine Below.alloc ?_ ?_ _) | (with_reducible refine Below.setCell ?_ ?_ _) | (with_reducible refine Below.drew ?_) | (with_reducible refine below_drewN ?_ _) | (with_reducible refine Below.trans ?_ (Below.mono (Hid.out (by assumption)) ?_)) | omega | (simp; done) | (simp; omega))))).mono ?_
  rintro e wq ⟨vq, cs, rfl, hplc, hb⟩
  have hle := HLE.out
  obtain ⟨aq, cq, rfl⟩ : ∃ a c, vq = .slice a Q.length c := by
    rcases hplc.own.2 with ⟨h, h0⟩ | ⟨g, cap, cur, h, _⟩
    · exact ⟨none, 0, by rw [h, h0]⟩
    · exact ⟨_, _, h⟩
  have hzq := hb.size
  (try simp at hzq)
  have HBQ : Hid (Below w.heap.size w wq) := Lib.hid (((Below.refl _ _).alloc (Nat.le_refl _) _).trans (hb.mono (by simp)))
  have HPQ := Lib.hid hplc
  clear hb hplc
  go_wp2_with fail
  go_loopw [3, 5, 10] (fun v _ z wr => ∃ j : Nat, j ≤ Q.length ∧ z = .int .i64 j ∧ Own wr wq.heap.size v (natL ((Q.take j).map Prod.fst)) ∧ Below wq.heap.size wq wr) (fun _ _ z _ => Q.length - (intOf z).toNat)
  case atStart => exact ⟨0, by omega, rfl, World.ownsRow_nil _ _ _ _, Below.refl _ _⟩
  case round =>
    obtain ⟨j, hj, rfl, hown, hb⟩ := hrel
    have HBR := Lib.hid hb
    have HO := Lib.hid hown
    have hsz := hb.size
    have HPR := Lib.hid (HPQ.out.below hb)
    clear hb hown
    by_cases hjl : j < Q.length
    · have hjl' : (j : Int) < (Q.length : Int) := by omega
      obtain ⟨g, cap, e, hgl, f0, f1⟩ := HPR.out.at_ hjl
      injection e with e _ ecap
      subst e
      have hrow := HPR.out.row j hjl
      obtain ⟨ua, un, uc, hu⟩ : ∃ ua un uc, (cs.getD j (0, undef)).2 = .slice ua un uc := by
        rcases own_shape hrow with ⟨h, _⟩ | ⟨g2, c2, h, _, _⟩
        · exact ⟨_, _, _, h⟩
        · exact ⟨_, _, _, h⟩
      rw [hu] at f1
      have HSN : Hid (natL ((Q.take (j + 1)).map Prod.fst) = natL ((Q.take j).map Prod.fst) ++ [(((Q.getD j (0, [])).1 : Nat) : Int)]) := Lib.hid (by
        rw [List.take_add_one, List.map_append, List.getElem?_eq_getElem hjl, List.getD_eq_getElem?_getD, List.getElem?_eq_getElem hjl]
        exact natL_snoc _ _)
      have hln : (natL ((Q.take j).map Prod.fst)).length ≤ 1000 := by unfold natL; simp; omega
      clear hrow hu ecap
      generalize (Q.getD j (0, [])).1 = c at *
      generalize natL ((Q.take j).map Prod.fst) = N0 at *
      go_wp2_with (at_builtin; refine wpList_appI7 rfl _ _ rfl wq.heap.size _ N0 rfl (World.ownsRow.alloc (World.ownsRow.alloc HO.out (.cells #[.int .i64 (c : Int), .slice ua un uc] 88)) _) (wr.heap.size + 1) 1 (c : Int) rfl (halloc_at _ _ _ (by simp)) (by omega) (by simp; omega) ?_; intro v' w2 ho2 hg2 _)
      have HO2 : Hid (Own w2 wq.heap.size v' (natL ((Q.take (j + 1)).map Prod.fst))) := Lib.hid (by rw [HSN.out]; exact ho2)
      have HB2 : Hid (Below wq.heap.size wq w2) := Lib.hid (((HBR.out.alloc hsz _).alloc (by rw [World.size_alloc]; omega) _).grown hg2 (by simp; omega) (fun r e => (World.ownsRow.lt HO.out r e).1))
      clear ho2 hg2
      go_wp2_with fail
      go_roundw
      case rel => exact ⟨j + 1, by omega, by go_num, HO2.out, HB2.out⟩
      case measure => simp [intOf]; omega
    · obtain rfl : j = Q.length := by omega
      have hjl' : ¬ ((Q.length : Int) < (Q.length : Int)) := by omega
      go_wp2_with fail
      go_ret
      refine ⟨_, rfl, ?_, HBQ.out.trans (HBR.out.mono (by omega))⟩
      have := HO.out
      rw [List.take_length] at this
      exact Joins.ownsRow_le this (by omega)

end Go.Proofs.Ytiakoplfknkhmaa
