/- Lists of images: the contracts of slices.Clone, spec.l01List, impl.ImagesOf and spec.ImagesOf. -/
import Derived.Test.YtlfoaicfmobhjaaAsc
import Derived.Test.YtlfoaicfmobhjaaSl
import Derived.Test.YtlfoaicfmobhjaaIim
namespace Go.Proofs.Ytlfoaicfmobhjaa
open Go.RowKit

/-- The first k images. -/
def lst (t : Nat → Int) (k : Nat) : List Int := (List.range k).map t

theorem lst_len (t : Nat → Int) (k : Nat) : (lst t k).length = k := by simp [lst]

theorem lst_succ (t : Nat → Int) (k : Nat) : lst t (k + 1) = lst t k ++ [t k] := by simp [lst, List.range_succ]

theorem lst_getD (t : Nat → Int) (k i : Nat) (h : i < k) : (lst t k).getD i 0 = t i := by simp [lst, h]

set_option maxHeartbeats 1000000 in
theorem clone_any (b o n cap : Nat) (L : List Int) (hL : L.length = n) (hn : n ≤ 1000000) (w : World) (hc : ∀ i, i < n → w.cell? ⟨b, o + i, none⟩ = some (.int .i64 (L.getD i 0))) :
    Calls Try.prog 82 #[.slice (some ⟨b, o, none⟩) n cap] w (RetOwn w.heap.size L w) := by
  obtain ⟨i0, hi, hz0, hz1, hz2⟩ := info_parts info_int
  have hnil : ∀ w : World, (binOp .eql 37 (.slice (some ⟨b, o, none⟩) n cap) (.slice none 0 0)).run Try.prog w = .ok (.bool false) w := fun w => Lib.run_eql_slice_nil w _ _ _ n cap 0 0 Try.underlying37
  have HC := Lib.hid hc
  have HLL := Lib.hid hL
  clear hc hL
  go_enter Try.func82, Try.ntmps82
  go_wp2_with (at_builtin; refine wpList_append_own _ rfl _ _ 37 rfl w.heap.size 2 i0 (.int .i64 0) 1 8 Try.underlying37 hi hz0 hz1 hz2 rfl (by decide) _ _ _ rfl (own_empty w _ (Nat.le_refl _)) ⟨b, o, none⟩ n cap (L.map (Value.int .i64)) rfl ?c0 ?c1 ?c2 ?c3 ?c4 ?c5 ?_)
  case c0 => simp [HLL.out]
  case c1 =>
    intro j u hj
    rw [List.getElem?_map] at hj
    have hjl : j < L.length := by
      rcases Nat.lt_or_ge j L.length with h | h
      · exact h
      · rw [List.getElem?_eq_none h] at hj; cases hj
    have := HC.out j (by rw [← HLL.out]; exact hjl)
    have hlt := World.block_lt_of_cell? w _ this
    have hadd : (⟨b, o, none⟩ : Addr).add j = ⟨b, o + j, none⟩ := by cases j <;> simp [Addr.add]
    rw [hadd, World.cell?_alloc_lt _ _ _ hlt]
    rw [List.getElem?_eq_getElem hjl] at hj
    simp at hj
    subst hj
    simpa [hjl] using this
  case c2 => intro u hu; simp at hu; obtain ⟨x, _, rfl⟩ := hu; rfl
  case c3 => unfold maxLen; omega
  case c4 => omega
  case c5 => simp
  intro v' w1 hown' hgrow _
  have HO : Hid (w1.ownsRow w.heap.size 2 1 v' L.length (L.map (Value.int .i64))) := by
    refine Lib.hid ?_
    rw [HLL.out]; simpa using hown'
  have HB : Hid (Below w.heap.size w w1) := ((Below.refl _ _).alloc (Nat.le_refl _) _).grown hgrow (by simp) (fun k hk => by cases hk; exact Nat.le_refl _)
  clear hown' hgrow
  go_wp2_with fail
  go_ret
  exact ⟨_, rfl, HO.out, HB.out⟩

set_option maxHeartbeats 1000000 in
theorem slist_any (p : Int) (t : Nat → Int) (hf : isB p t = true) (w : World) :
    Calls Try.prog 93 #[mv p t] w (RetOwn w.heap.size (lst t p.toNat) w) := by
  obtain ⟨h1, h5⟩ := isB_pts hf
  clear hf
  obtain ⟨i0, hi, hz0', hz1', hz2'⟩ := info_parts info_int
  simp only [mv, mcells]
  go_enter Try.func93, Try.ntmps93
  go_wp2_with fail
  go_loopw [3, 4] (fun v i wr => ∃ k : Nat, (k : Int) ≤ p ∧ i = .int .i64 k ∧ wr.ownsRow (w.heap.size + 1) 2 1 v (lst t k).length ((lst t k).map (Value.int .i64)) ∧ Below (w.heap.size + 1) (w.alloc (.cells (mcells p t) 26)) wr) (fun _ i _ => (p - intOf i).toNat)
  case atStart =>
    have ho := own_empty (w.alloc (.cells (mcells p t) 26)) (w.heap.size + 1) (by simp)
    simp only [World.size_alloc] at ho
    exact ⟨0, by omega, rfl, ho, (Below.refl _ _).alloc (by simp) _⟩
  case round =>
    obtain ⟨k, hk, rfl, hown, hb⟩ := hrel
    have hp := new_cell hb (Nat.lt_succ_self _) 0
    simp only [mcells, List.getElem?_toArray, List.getElem?_cons_zero] at hp
    have Hb' := Lib.hid hb
    have hsz := hb.size
    simp at hsz
    by_cases hkp : (k : Int) < p
    · have k5 : k < 5 := by omega
      have k5' : (k : Int) < 5 := by omega
      have hc := (new_cell hb (Nat.lt_succ_self _) (1 + k)).trans (mcells_at p t k k5)
      clear hb
      have hlen := lst_len t k
      have HLEN := Lib.hid hlen
      clear hlen
      go_wp2_with (at_builtin; refine wpList_append_own _ rfl _ _ 37 rfl (w.heap.size + 1) 2 i0 (.int .i64 0) 1 8 Try.underlying37 hi hz0' hz1' hz2' rfl (by decide) _ _ _ rfl (hown.alloc _) ⟨wr.heap.size, 0, none⟩ 1 1 [.int .i64 (t k)] rfl rfl ?c1 ?c2 ?c3 ?c4 ?c5 ?_)
      case c1 =>
        intro j u hj
        match j, hj with
        | 0, hj => simp at hj; subst hj; simp [Addr.add]
      case c2 => intro u hu; simp at hu; subst hu; rfl
      case c3 => have := HLEN.out; unfold maxLen; omega
      case c4 => have := HLEN.out; omega
      case c5 => simp; omega
      intro v' w2 hown' hgrow _
      have hown2 : Hid (w2.ownsRow (w.heap.size + 1) 2 1 v' (lst t (k + 1)).length ((lst t (k + 1)).map (Value.int .i64))) := by
        refine Lib.hid ?_
        rw [lst_succ]; simpa using hown'
      have hb2 : Hid (Below (w.heap.size + 1) (w.alloc (.cells (mcells p t) 26)) w2) :=
        (Hb'.out.alloc (by omega) _).grown hgrow (by simp; omega) (fun b hbk => by
          rcases hown.2 with ⟨hv, _⟩ | ⟨g, cap, cur, hv, hg, _⟩
          · rw [hv] at hbk; cases hbk
          · rw [hv] at hbk; cases hbk; exact hg)
      clear hown' hgrow hown
      go_wp2_with fail
      go_roundw
      case rel => exact ⟨k + 1, by omega, by go_num, hown2.out, hb2.out⟩
      case measure => simp [intOf]; omega
    · have HO := Lib.hid hown
      clear hb hown
      go_wp2_with fail
      go_ret
      refine ⟨_, rfl, ?_, bel_new Hb'.out (by omega)⟩
      rw [show p.toNat = k by omega]
      exact Joins.ownsRow_le HO.out (by omega)

def imgsL (p : Int) (t : Nat → Int) : List Int := if isB p t = true then lst t p.toNat else []

def imgsC (p : Int) (t : Nat → Int) : Int := if isB p t = true then 0 else 1

theorem imgs_0 {p : Int} {t : Nat → Int} (hv : isB p t = true) : imgsL p t = lst t p.toNat ∧ imgsC p t = 0 := by
  unfold imgsL imgsC; rw [if_pos hv, if_pos hv]; exact ⟨rfl, rfl⟩

theorem imgs_1 {p : Int} {t : Nat → Int} (hv : isB p t = false) : imgsL p t = [] ∧ imgsC p t = 1 := by
  unfold imgsL imgsC; rw [if_neg (by rw [hv]; exact Bool.false_ne_true), if_neg (by rw [hv]; exact Bool.false_ne_true)]; exact ⟨rfl, rfl⟩

set_option maxHeartbeats 1000000 in
theorem sImgs_any (p : Int) (t : Nat → Int) (w : World) :
    Calls Try.prog 43 #[mv p t] w (RetRow w.heap.size (imgsL p t) (imgsC p t) w) := by
  cases hv : isB p t
  · rw [(imgs_1 hv).1, (imgs_1 hv).2]
    simp only [mv, mcells]
    go_enter Try.func43, Try.ntmps43
    go_wp2_with fail
    (refine (lis_any p t _).mono ?_; rintro e w1 ⟨rfl, hb⟩; obtain ⟨hc, hf⟩ := bcell hb; have hz := hb.size; have Hb := Lib.hid hb; (try simp at hz hc hf); (try (have hy := Nat.lt_of_succ_le hz)); have hz0 : w.heap.size < w1.heap.size := (by omega); clear hb)
    go_wp2_with fail
    go_ret2
    refine ⟨none, 0, rfl, ⟨by simp, Or.inl rfl⟩, ?_⟩
    (repeat' (first | (with_reducible exact Below.refl _ _) | (with_reducible refine Below.alloc ?_ ?_ _) | (with_reducible refine Below.setCell ?_ ?_ _) | (with_reducible refine Below.drew ?_) | (with_reducible refine below_drewN ?_ _) | (with_reducible refine Below.trans ?_ (Below.mono (Hid.out (by assumption)) ?_)) | omega | (simp; done) | (simp; omega)))
  · rw [(imgs_0 hv).1, (imgs_0 hv).2]
    have HF := Lib.hid fun w => slist_any p t hv w
    have hll : (lst t p.toNat).length ≤ 1000000 := by rw [lst_len]; have := isB_pts hv; omega
    simp only [mv, mcells]
    go_enter Try.func43, Try.ntmps43
    go_wp2_with fail
    (refine (lis_any p t _).mono ?_; rintro e w1 ⟨rfl, hb⟩; obtain ⟨hc, hf⟩ := bcell hb; have hz := hb.size; have Hb := Lib.hid hb; (try simp at hz hc hf); (try (have hy := Nat.lt_of_succ_le hz)); have hz0 : w.heap.size < w1.heap.size := (by omega); clear hb)
    go_wp2_with fail
    refine (HF.out _).mono ?_
    rintro e w2 ⟨v, rfl, hown, hbel⟩
    obtain ⟨a, cap, rfl, hrd⟩ := own_rd hown hll
    have HB := Lib.hid hbel
    have HO := Lib.hid hrd
    clear hbel hown hrd
    go_wp2_with fail
    go_ret2
    refine ⟨a, cap, rfl, HO.out.mono (by omega), ?_⟩
    (repeat' (first | (with_reducible exact Below.refl _ _) | (with_reducible refine Below.alloc ?_ ?_ _) | (with_reducible refine Below.setCell ?_ ?_ _) | (with_reducible refine Below.drew ?_) | (with_reducible refine below_drewN ?_ _) | (with_reducible refine Below.trans ?_ (Below.mono (Hid.out (by assumption)) ?_)) | omega | (simp; done) | (simp; omega)))

set_option maxHeartbeats 1000000 in
theorem iImgs_any (p : Int) (t : Nat → Int) (w : World) :
    Calls Try.prog 24 #[mv p t] w (RetRow w.heap.size (imgsL p t) (imgsC p t) w) := by
  cases hv : isB p t
  · rw [(imgs_1 hv).1, (imgs_1 hv).2]
    simp only [mv, mcells]
    go_enter Try.func24, Try.ntmps24
    go_wp2_with fail
    (refine (iis_any p t _).mono ?_; rintro e w1 ⟨rfl, hb⟩; obtain ⟨hc, hf⟩ := bcell hb; have hz := hb.size; have Hb := Lib.hid hb; (try simp at hz hc hf); (try (have hy := Nat.lt_of_succ_le hz)); have hz0 : w.heap.size < w1.heap.size := (by omega); clear hb)
    go_wp2_with fail
    go_ret2
    refine ⟨none, 0, rfl, ⟨by simp, Or.inl rfl⟩, ?_⟩
    (repeat' (first | (with_reducible exact Below.refl _ _) | (with_reducible refine Below.alloc ?_ ?_ _) | (with_reducible refine Below.setCell ?_ ?_ _) | (with_reducible refine Below.drew ?_) | (with_reducible refine below_drewN ?_ _) | (with_reducible refine Below.trans ?_ (Below.mono (Hid.out (by assumption)) ?_)) | omega | (simp; done) | (simp; omega)))
  · rw [(imgs_0 hv).1, (imgs_0 hv).2]
    have hll : (lst t p.toNat).length ≤ 1000000 := by rw [lst_len]; have := isB_pts hv; omega
    obtain ⟨h1, h5⟩ := isB_pts hv
    obtain ⟨m, rfl⟩ := Int.eq_ofNat_of_zero_le (show 0 ≤ p by omega)
    simp only [Int.toNat_natCast] at hll ⊢
    have hm5 : m ≤ 5 := by omega
    have hm1 : 1 ≤ m := by omega
    have HL := Lib.hid fun w => iis_any (m : Int) t w
    rw [hv] at HL
    clear hv
    simp only [mv, mcells]
    go_enter Try.func24, Try.ntmps24
    go_wp2_with fail
    refine (HL.out _).mono ?_
    rintro e w1 ⟨rfl, hb⟩
    have hbk := (hb.block w.heap.size (by simp)).trans (halloc_at w _ _ rfl)
    have hsz := hb.size
    simp at hsz
    have BK := Lib.hid hbk
    have Hb := Lib.hid hb
    have hp := (blk6 hbk).1
    clear hb hbk
    go_wp2_with fail
    refine (clone_any w.heap.size 1 m 5 (lst t m) (lst_len t m) (by omega) _ (fun i hi => by rw [lst_getD t m i hi]; exact blk_at BK.out i (by omega))).mono ?_
    rintro e w2 ⟨v, rfl, hown, hbel⟩
    obtain ⟨a, cap, rfl, hrd⟩ := own_rd hown hll
    have HB := Lib.hid hbel
    have HO := Lib.hid hrd
    clear hbel hown hrd
    go_wp2_with fail
    go_ret2
    refine ⟨a, cap, rfl, HO.out.mono (by omega), ?_⟩
    (repeat' (first | (with_reducible exact Below.refl _ _) | (with_reducible refine Below.alloc ?_ ?_ _) | (with_reducible refine Below.setCell ?_ ?_ _) | (with_reducible refine Below.drew ?_) | (with_reducible refine below_drewN ?_ _) | (with_reducible refine Below.trans ?_ (Below.mono (Hid.out (by assumption)) ?_)) | omega | (simp; done) | (simp; omega)))

end Go.Proofs.Ytlfoaicfmobhjaa
