/- The contracts of spec.PreimageOf and impl.PreimageOf. -/
import Derived.Test.YtooeiafkhdiepaaIms
import Derived.Test.YtooeiafkhdiepaaIim
import Derived.Test.YtooeiafkhdiepaaHas
namespace Go.Proofs.Ytooeiafkhdiepaa
open Go.RowKit

/-- The points among the first k that are led to a point of the list. -/
def preK (t : Nat → Int) (L : List Int) (k : Nat) : Nat → Bool := fun i => if i < k then L.contains (t i) else false

theorem preK_succ (t : Nat → Int) (L : List Int) (k : Nat) : (fun i => if i = k then L.contains (t k) else preK t L k i) = preK t L (k + 1) := by
  funext i
  unfold preK
  by_cases h : i = k
  · subst h; simp
  · by_cases h' : i < k
    · rw [if_neg h, if_pos h', if_pos (by omega)]
    · rw [if_neg h, if_neg h', if_neg (by omega)]

/-- The points that are led to points of a list; none if the code is not 0. -/
def presL (p : Int) (t : Nat → Int) (L : List Int) : List Int := if setC p t L = 0 then asc (preK t L p.toNat) else []

theorem pre_asc {p : Int} (t : Nat → Int) (L : List Int) (k : Nat) (hk : p.toNat = k) (h5 : k ≤ 5) : ascK (fun i => L.contains (t i)) k = asc (preK t L p.toNat) := by
  unfold asc
  rw [hk, ascK_cut (preK t L k) k 5 h5 (fun i hi => by unfold preK; rw [if_neg (by omega)])]
  exact ascK_congr _ _ k (fun i hi => by unfold preK; rw [if_pos hi])

set_option maxHeartbeats 1000000 in
theorem sPre_any (p : Int) (t : Nat → Int) (L : List Int) (hn : L.length ≤ 1048576) (a : Option Addr) (c : Nat) (w : World) (h : InRow w a L) :
    Calls Try.prog 31 #[mv p t, .slice a L.length c] w (RetRow w.heap.size (presL p t L) (setC p t L) w) := by
  have HN := Lib.hid h
  by_cases hC : setC p t L = 0
  · have e1 : presL p t L = asc (preK t L p.toNat) := by unfold presL; rw [if_pos hC]
    obtain ⟨hv, hp⟩ := setC_zero hC
    obtain ⟨h1, h5⟩ := isB_pts hv
    rw [e1]
    have HV := Lib.hid hv
    have HSET := fun w h => set_any p t L hn a c w h
    rw [hC] at HSET ⊢
    have HSET := Lib.hid HSET
    have HB := Lib.hid fun wx (hx : Below w.heap.size w wx) => sbits_any p h5 L hp hn a c wx (HN.out.below hx)
    clear h hC e1 hv hp
    have hMd := mask_bd (memB L)
    have HLen := Lib.hid (asc_len (preK t L p.toNat))
    have HAND := Lib.hid fun (k : Nat) (h0 : 0 ≤ t k) (h5 : (t k).toNat < 5) => (and_mask (memB L) (t k).toNat h5).trans (memB_contains (L := L) (t k) h0)
    obtain ⟨i0, hi, hz0', hz1', hz2'⟩ := info_parts info_int
    have HFIX := Lib.hid fun k (h1 : p.toNat = k) h2 => pre_asc (p := p) t L k h1 h2
    generalize asc (preK t L p.toNat) = R at *
    generalize mask (memB L) = M at *
    simp only [mv, mcells] at *
    go_enter Try.func31, Try.ntmps31
    go_wp2_with fail
    refine (HSET.out _ (HN.out.below (by (repeat' (first | (with_reducible exact Below.refl _ _) | (with_reducible refine Below.alloc ?_ ?_ _) | (with_reducible refine Below.setCell ?_ ?_ _) | (with_reducible refine Below.drew ?_) | (with_reducible refine below_drewN ?_ _) | (with_reducible refine Below.trans ?_ (Below.mono (Hid.out (by assumption)) ?_)) | omega | (simp; done) | (simp; omega)))))).mono ?_
    rintro e w1 ⟨rfl, hb⟩
    have hz := hb.size
    have Hb := Lib.hid hb
    (try simp at hz)
    clear hb
    go_wp2_with fail
    refine (HB.out _ (by (repeat' (first | (with_reducible exact Below.refl _ _) | (with_reducible refine Below.alloc ?_ ?_ _) | (with_reducible refine Below.setCell ?_ ?_ _) | (with_reducible refine Below.drew ?_) | (with_reducible refine below_drewN ?_ _) | (with_reducible refine Below.trans ?_ (Below.mono (Hid.out (by assumption)) ?_)) | omega | (simp; done) | (simp; omega))))).mono ?_
    rintro e w2 ⟨rfl, rfl⟩
    go_wp2_with fail
    go_loopw [8, 9] (fun v i wr => ∃ k : Nat, (k : Int) ≤ p ∧ i = .int .i64 k ∧ wr.ownsRow (w.heap.size + 1) 2 1 v (ascK (fun i => L.contains (t i)) k).length ((ascK (fun i => L.contains (t i)) k).map (Value.int .i64)) ∧ Below (w.heap.size + 1) (w.alloc (.cells (mcells p t) 26)) wr) (fun _ i _ => (p - intOf i).toNat)
    case atStart => exact ⟨0, by omega, rfl, own_empty _ _ (by omega), (by simpa using Hb.out : Below (w.heap.size + 1) _ _).alloc (by omega) _⟩
    case round =>
      clear hz Hb
      obtain ⟨k, hk, rfl, hown, hb⟩ := hrel
      have hp := new_cell hb (Nat.lt_succ_self _) 0
      simp only [mcells, List.getElem?_toArray, List.getElem?_cons_zero] at hp
      have Hb' := Lib.hid hb
      have hsz := hb.size
      simp at hsz
      by_cases hkp : (k : Int) < p
      · obtain ⟨f0, f1, k5⟩ := ok_at HV.out k hkp
        have f5 : t k < 5 := by omega
        have k5' : (k : Int) < 5 := by omega
        have hc := (new_cell hb (Nat.lt_succ_self _) (1 + k)).trans (mcells_at p t k k5)
        have hand := HAND.out k f0 (by omega)
        clear hb
        have hlen := ascK_len (fun i => L.contains (t i)) k
        cases hs : L.contains (t k)
        · have hown' : Hid (wr.ownsRow (w.heap.size + 1) 2 1 u8 (ascK (fun i => L.contains (t i)) (k + 1)).length ((ascK (fun i => L.contains (t i)) (k + 1)).map (Value.int .i64))) := by
            refine Lib.hid ?_
            rw [ascK_succ, if_neg (by simp only [hs]; exact Bool.false_ne_true)]; exact hown
          rw [hs] at hand
          clear hown hs
          go_wp2_with fail
          go_roundw
          case rel => exact ⟨k + 1, by omega, by go_num, hown'.out, Hb'.out⟩
          case measure => simp [intOf]; omega
        · have Hst : Hid (L.contains (t k) = true) := Lib.hid hs
          rw [hs] at hand
          clear hs
          go_wp2_with (at_builtin; refine wpList_append_own _ rfl _ _ 37 rfl (w.heap.size + 1) 2 i0 (.int .i64 0) 1 8 Try.underlying37 hi hz0' hz1' hz2' rfl (by decide) _ _ _ rfl (hown.alloc _) ⟨wr.heap.size, 0, none⟩ 1 1 [.int .i64 k] rfl rfl ?c1 ?c2 ?c3 ?c4 ?c5 ?_)
          case c1 =>
            intro j u hj
            match j, hj with
            | 0, hj => simp at hj; subst hj; simp [Addr.add]
          case c2 => intro u hu; simp at hu; subst hu; rfl
          case c3 => unfold maxLen; omega
          case c4 => omega
          case c5 => simp; omega
          intro v' w2 hown' hgrow _
          have hown2 : Hid (w2.ownsRow (w.heap.size + 1) 2 1 v' (ascK (fun i => L.contains (t i)) (k + 1)).length ((ascK (fun i => L.contains (t i)) (k + 1)).map (Value.int .i64))) := by
            refine Lib.hid ?_
            rw [ascK_succ, if_pos (by simp only [Hst.out])]; simpa using hown'
          have hb2 : Hid (Below (w.heap.size + 1) (w.alloc (.cells (mcells p t) 26)) w2) :=
            (Hb'.out.alloc (by omega) _).grown hgrow (by simp; omega) (fun b hbk => by
              rcases hown.2 with ⟨hv, _⟩ | ⟨g, cap, cur, hv, hg, _⟩
              · rw [hv] at hbk; cases hbk
              · rw [hv] at hbk; cases hbk; exact hg)
          clear hown' hgrow hown
          go_wp2_with fail
          go_roundw
          case rel => exact ⟨k + 1, by omega, by go_num, hown2.out, hb2.out⟩
          case measure => simp [intOf]; omega
      · have hown0 : Own wr (w.heap.size + 1) u8 (ascK (fun i => L.contains (t i)) k) := hown
        rw [HFIX.out k (by omega) (by omega)] at hown0
        obtain ⟨a, cap, rfl, hrd⟩ := own_rd hown0 HLen.out
        have HO := Lib.hid hrd
        clear hb hown hown0 hrd
        go_wp2_with fail
        go_ret2
        exact ⟨a, cap, rfl, HO.out.mono (by omega), bel_new Hb'.out (by omega)⟩
  · have e1 : presL p t L = [] := by unfold presL; rw [if_neg hC]
    rw [e1]
    have hC2 : (setC p t L != 0) = true := by simpa using hC
    have HSET := Lib.hid fun w h => set_any p t L hn a c w h
    clear h hC e1
    generalize setC p t L = C at *
    simp only [mv, mcells] at *
    go_enter Try.func31, Try.ntmps31
    go_wp2_with fail
    refine (HSET.out _ (HN.out.below (by (repeat' (first | (with_reducible exact Below.refl _ _) | (with_reducible refine Below.alloc ?_ ?_ _) | (with_reducible refine Below.setCell ?_ ?_ _) | (with_reducible refine Below.drew ?_) | (with_reducible refine below_drewN ?_ _) | (with_reducible refine Below.trans ?_ (Below.mono (Hid.out (by assumption)) ?_)) | omega | (simp; done) | (simp; omega)))))).mono ?_
    rintro e w1 ⟨rfl, hb⟩
    have Hb := Lib.hid hb
    have hz := hb.size
    (try simp at hz)
    clear hb
    go_wp2_with fail
    go_ret2
    refine ⟨none, 0, rfl, ⟨by simp, Or.inl rfl⟩, ?_⟩
    (repeat' (first | (with_reducible exact Below.refl _ _) | (with_reducible refine Below.alloc ?_ ?_ _) | (with_reducible refine Below.setCell ?_ ?_ _) | (with_reducible refine Below.drew ?_) | (with_reducible refine below_drewN ?_ _) | (with_reducible refine Below.trans ?_ (Below.mono (Hid.out (by assumption)) ?_)) | omega | (simp; done) | (simp; omega)))

set_option maxHeartbeats 1000000 in
theorem iPre_any (p : Int) (t : Nat → Int) (L : List Int) (hn : L.length ≤ 1048576) (a : Option Addr) (c : Nat) (w : World) (h : InRow w a L) :
    Calls Try.prog 28 #[mv p t, .slice a L.length c] w (RetRow w.heap.size (presL p t L) (setC p t L) w) := by
  have HN := Lib.hid h
  have HI := Lib.hid fun w => iis_any p t w
  clear h
  rcases setC_cases p t L with hC | ⟨_, hv, hC⟩ | ⟨_, hv, hp, hC⟩
  · have e1 : presL p t L = asc (preK t L p.toNat) := by unfold presL; rw [if_pos hC]
    obtain ⟨hv, hp⟩ := setC_zero hC
    rw [e1, hC]
    obtain ⟨h1, h5⟩ := isB_pts hv
    have HA := fun wx (hx : Below w.heap.size w wx) => aap_any p L hn a c wx (HN.out.below hx)
    rw [hp] at HA
    have HA := Lib.hid HA
    have HH := Lib.hid fun x wx (hx : Below w.heap.size w wx) => contains_any L x (by omega) a c wx (HN.out.below hx)
    have HI := HI.out
    rw [hv] at HI
    have HI := Lib.hid HI
    have HLen := Lib.hid (asc_len (preK t L p.toNat))
    clear hC e1 hv hp
    simp only [mv, mcells] at *
    go_enter Try.func28, Try.ntmps28
    go_wp2_with fail
    (refine (HI.out _).mono ?_; rintro e w1 ⟨rfl, hb⟩; obtain ⟨hc, hf⟩ := bcell hb; have hz := hb.size; have Hb := Lib.hid hb; (try simp at hz hc hf); (try (have hy := Nat.lt_of_succ_le hz)); have hz0 : w.heap.size < w1.heap.size := (by omega); clear hb)
    go_wp2_with fail
    refine (HA.out _ (by (repeat' (first | (with_reducible exact Below.refl _ _) | (with_reducible refine Below.alloc ?_ ?_ _) | (with_reducible refine Below.setCell ?_ ?_ _) | (with_reducible refine Below.drew ?_) | (with_reducible refine below_drewN ?_ _) | (with_reducible refine Below.trans ?_ (Below.mono (Hid.out (by assumption)) ?_)) | omega | (simp; done) | (simp; omega))))).mono ?_
    rintro e w2 ⟨rfl, m, rfl⟩
    have hz9 : w.heap.size < (w1.drewN m).heap.size := (by show _ < w1.heap.size; omega)
    have hcx : ∀ o : Obj, ((w1.drewN m).alloc o).cell? ⟨w.heap.size, 0, none⟩ = some (.int .i64 p) := fun o => (blk6 (p := p) (t := t) ((halloc_lt (w1.drewN m) o _ hz9).trans ((Hb.out.block w.heap.size (by simp)).trans (halloc_at w _ _ rfl)))).1
    go_wp2_with fail
    obtain ⟨wo, hwo⟩ : ∃ wo, wo = w1 := ⟨_, rfl⟩
    subst hwo
    have hw1 : w.heap.size < wo.heap.size := by omega
    go_loopw [7, 18] (fun _ i wr => ∃ k : Nat, (k : Int) ≤ p ∧ i = .int .i64 k ∧ Below w.heap.size w wr ∧ wo.heap.size < wr.heap.size ∧
        wr.heap[w.heap.size]? = some (.cells (mcells p t) 26 (0, 0)) ∧ wr.heap[wo.heap.size]? = some (.cells (cells5 (preK t L k)) 70 (0, 0))) (fun _ i _ => (p - intOf i).toNat)
    case atStart =>
      refine ⟨0, by omega, rfl, ?_, by show wo.heap.size < ((wo.drewN m).alloc _).heap.size; rw [World.size_alloc]; exact Nat.lt_succ_self _, ?_, ?_⟩
      · (repeat' (first | (with_reducible exact Below.refl _ _) | (with_reducible refine Below.alloc ?_ ?_ _) | (with_reducible refine Below.setCell ?_ ?_ _) | (with_reducible refine Below.drew ?_) | (with_reducible refine below_drewN ?_ _) | (with_reducible refine Below.trans ?_ (Below.mono (Hid.out (by assumption)) ?_)) | omega | (simp; done) | (simp; omega)))
      · exact (halloc_lt (wo.drewN m) _ _ hw1).trans ((Hb.out.block w.heap.size (by simp)).trans (halloc_at w _ _ rfl))
      · exact halloc_at (wo.drewN m) _ _ rfl
    case round =>
      clear hcx hz9 hc hf hz hz0 hy Hb
      obtain ⟨k, hk, rfl, hb, hsz, b0, b1⟩ := hrel
      have Hb := Lib.hid hb
      have B0 := Lib.hid b0
      have B1 := Lib.hid b1
      clear hb b0 b1
      by_cases hkp : (k : Int) < p
      · have k5 : k < 5 := by omega
        have k5' : (k : Int) < 5 := by omega
        have hfk := blk_at B0.out k k5
        have hok := blk5_at B1.out k k5
        have hfr := blk_free B1.out k
        have hput := cells5_put (preK t L k) k k5 (L.contains (t k))
        rw [preK_succ] at hput
        have HPUT := Lib.hid hput
        clear hput
        have HX := Lib.hid (HH.out (t k) wr Hb.out)
        generalize L.contains (t k) = X at *
        go_wp2_with fail
        refine HX.out.mono ?_
        rintro e w2 ⟨rfl, rfl⟩
        go_wp2_with fail
        go_roundw
        case rel =>
          refine ⟨k + 1, by omega, by go_num, Hb.out.setCell (by simp; omega) _, by simpa using hsz, ?_, ?_⟩
          · rw [hset_ne _ _ _ _ (by simp; omega)]; exact B0.out
          · rw [Joins.block_setCell B1.out, HPUT.out]
        case measure => simp [intOf]; omega
      · have hK : Hid (preK t L k = preK t L p.toNat) := by rw [show p.toNat = k by omega]; exact Lib.hid rfl
        obtain ⟨e0, e1, e2, e3, e4⟩ := blk5 B1.out
        have HR := Lib.hid (asc_any (preK t L k))
        simp only [cells5] at HR
        go_wp2_with fail
        refine (HR.out _).mono ?_
        rintro e w2 ⟨v, rfl, hown, hbel⟩
        rw [hK.out] at hown
        obtain ⟨ax, cx, rfl, hrd⟩ := own_rd hown HLen.out
        have HB := Lib.hid hbel
        have HO := Lib.hid hrd
        clear hbel hown hrd
        go_wp2_with fail
        go_ret2
        refine ⟨_, _, rfl, HO.out.mono (by omega), ?_⟩
        (repeat' (first | (with_reducible exact Below.refl _ _) | (with_reducible refine Below.alloc ?_ ?_ _) | (with_reducible refine Below.setCell ?_ ?_ _) | (with_reducible refine Below.drew ?_) | (with_reducible refine below_drewN ?_ _) | (with_reducible refine Below.trans ?_ (Below.mono (Hid.out (by assumption)) ?_)) | omega | (simp; done) | (simp; omega)))
  · have e1 : presL p t L = [] := by unfold presL; rw [if_neg (by omega)]
    rw [e1, hC]
    have HI := HI.out
    rw [hv] at HI
    have HI := Lib.hid HI
    clear hC e1 hv
    simp only [mv, mcells] at *
    go_enter Try.func28, Try.ntmps28
    go_wp2_with fail
    (refine (HI.out _).mono ?_; rintro e w1 ⟨rfl, hb⟩; obtain ⟨hc, hf⟩ := bcell hb; have hz := hb.size; have Hb := Lib.hid hb; (try simp at hz hc hf); (try (have hy := Nat.lt_of_succ_le hz)); have hz0 : w.heap.size < w1.heap.size := (by omega); clear hb)
    go_wp2_with fail
    go_ret2
    refine ⟨none, 0, rfl, ⟨by simp, Or.inl rfl⟩, ?_⟩
    (repeat' (first | (with_reducible exact Below.refl _ _) | (with_reducible refine Below.alloc ?_ ?_ _) | (with_reducible refine Below.setCell ?_ ?_ _) | (with_reducible refine Below.drew ?_) | (with_reducible refine below_drewN ?_ _) | (with_reducible refine Below.trans ?_ (Below.mono (Hid.out (by assumption)) ?_)) | omega | (simp; done) | (simp; omega)))
  · have e1 : presL p t L = [] := by unfold presL; rw [if_neg (by omega)]
    rw [e1, hC]
    have HI := HI.out
    rw [hv] at HI
    have HI := Lib.hid HI
    have HA := fun wx (hx : Below w.heap.size w wx) => aap_any p L hn a c wx (HN.out.below hx)
    rw [hp] at HA
    have HA := Lib.hid HA
    clear hC e1 hv hp
    simp only [mv, mcells] at *
    go_enter Try.func28, Try.ntmps28
    go_wp2_with fail
    (refine (HI.out _).mono ?_; rintro e w1 ⟨rfl, hb⟩; obtain ⟨hc, hf⟩ := bcell hb; have hz := hb.size; have Hb := Lib.hid hb; (try simp at hz hc hf); (try (have hy := Nat.lt_of_succ_le hz)); have hz0 : w.heap.size < w1.heap.size := (by omega); clear hb)
    go_wp2_with fail
    refine (HA.out _ (by (repeat' (first | (with_reducible exact Below.refl _ _) | (with_reducible refine Below.alloc ?_ ?_ _) | (with_reducible refine Below.setCell ?_ ?_ _) | (with_reducible refine Below.drew ?_) | (with_reducible refine below_drewN ?_ _) | (with_reducible refine Below.trans ?_ (Below.mono (Hid.out (by assumption)) ?_)) | omega | (simp; done) | (simp; omega))))).mono ?_
    rintro e w2 ⟨rfl, m, rfl⟩
    go_wp2_with fail
    go_ret2
    refine ⟨none, 0, rfl, ⟨by simp, Or.inl rfl⟩, ?_⟩
    (repeat' (first | (with_reducible exact Below.refl _ _) | (with_reducible refine Below.alloc ?_ ?_ _) | (with_reducible refine Below.setCell ?_ ?_ _) | (with_reducible refine Below.drew ?_) | (with_reducible refine below_drewN ?_ _) | (with_reducible refine Below.trans ?_ (Below.mono (Hid.out (by assumption)) ?_)) | omega | (simp; done) | (simp; omega)))
end Go.Proofs.Ytooeiafkhdiepaa
