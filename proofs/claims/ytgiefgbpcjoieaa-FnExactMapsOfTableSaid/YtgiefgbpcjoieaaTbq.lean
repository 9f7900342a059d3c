/- The contracts of MapsOfTable on both sides. -/
import Derived.Test.YtgiefgbpcjoieaaTbm
import Derived.Test.YtgiefgbpcjoieaaSl
import Derived.Test.YtgiefgbpcjoieaaConc
namespace Go.Proofs.Ytgiefgbpcjoieaa
open Go.RowKit

/-- The first k numbers of a column. -/
def colL (mu : Nat → Nat → Nat) (a k : Nat) : List Int := (List.range k).map fun x => (mu x a : Int)
theorem colL_len (mu : Nat → Nat → Nat) (a k : Nat) : (colL mu a k).length = k := by simp [colL]
theorem colL_succ (mu : Nat → Nat → Nat) (a k : Nat) : colL mu a (k + 1) = colL mu a k ++ [(mu k a : Int)] := by simp [colL, List.range_succ]
theorem colL_at (mu : Nat → Nat → Nat) (a n k : Nat) (h : k < n) : (colL mu a n).getD k 0 = (mu k a : Int) := by simp [colL, h]
def motL (mu : Nat → Nat → Nat) (n k : Nat) : List MapN := (List.range k).map fun a => ((n : Int), tL (colL mu a n))
theorem motL_len (mu : Nat → Nat → Nat) (n k : Nat) : (motL mu n k).length = k := by simp [motL]
theorem motL_succ (mu : Nat → Nat → Nat) (n k : Nat) : motL mu n (k + 1) = motL mu n k ++ [((n : Int), tL (colL mu k n))] := by simp [motL, List.range_succ]
def motC (LL : List (List Int)) : Int := if tblB LL = true then (if LL.length ≤ 5 then (if monB LL.length (mp LL) = true then 0 else 5) else 3) else 2
def motM (LL : List (List Int)) : List MapN := if motC LL = 0 then motL (mp LL) LL.length LL.length else []
theorem motC_bad {LL : List (List Int)} (h : tblB LL = false) : motC LL = 2 := by unfold motC; rw [h]; rfl
theorem motC_big {LL : List (List Int)} (h : tblB LL = true) (h5 : ¬ LL.length ≤ 5) : motC LL = 3 := by unfold motC; rw [if_pos h, if_neg h5]
theorem motC_no {LL : List (List Int)} (h : tblB LL = true) (h5 : LL.length ≤ 5) (hm : monB LL.length (mp LL) = false) : motC LL = 5 := by unfold motC; rw [if_pos h, if_pos h5, hm]; rfl
theorem motC_good {LL : List (List Int)} (h : tblB LL = true) (h5 : LL.length ≤ 5) (hm : monB LL.length (mp LL) = true) : motC LL = 0 := by unfold motC; rw [if_pos h, if_pos h5, if_pos hm]
theorem motM_bad {LL : List (List Int)} (h : motC LL ≠ 0) : motM LL = [] := by unfold motM; rw [if_neg h]
theorem motM_good {LL : List (List Int)} (h : motC LL = 0) : motM LL = motL (mp LL) LL.length LL.length := by unfold motM; rw [if_pos h]

/-- The call returns a list of maps of its own and a code. -/
def RetMs (B : Nat) (L : List MapN) (c : Int) (w : World) (e : Ending) (w' : World) : Prop :=
  ∃ a cap, e = .returned (.tuple #[.slice a L.length cap, .int .i64 c]) ∧ RdM w' B a L ∧ Below w.heap.size w w'

theorem at_one8 {w : World} {b : Nat} {p : Int} {t : Nat → Int} (h : w.heap[b]? = some (.cells (mcells p t) 71 (0, 0))) : ∀ j, j < [(p, t)].length → AtM w b 0 j ([(p, t)].getD j z0) := by
  intro j hj
  obtain rfl : j = 0 := by simp at hj; omega
  obtain ⟨e0, e1, e2, e3, e4, e5⟩ := blk6 h
  exact ⟨e0, e1, e2, e3, e4, e5⟩

theorem ownM_keep {w w' : World} {B : Nat} {v : Value} {L : List MapN} (h : OwnM w B v L) (hb : Below w.heap.size w w') : OwnM w' B v L := by
  unfold OwnM at *
  exact h.kept (row := none) ⟨hb.os, hb.tape, hb.output, hb.size, fun j hj _ => hb.block j hj⟩ (by cases hv : v.ownBlock <;> simp)

theorem ownM_nil8 (w : World) (B : Nat) : OwnM w B (.slice none 0 0) [] := World.ownsRow_nil _ _ _ _

theorem own_keep8 {w w' : World} {B : Nat} {v : Value} {L : List Int} (h : Own w B v L) (hb : Below w.heap.size w w') : Own w' B v L := by
  unfold Own at *
  exact h.kept (row := none) ⟨hb.os, hb.tape, hb.output, hb.size, fun j hj _ => hb.block j hj⟩ (by cases hv : v.ownBlock <;> simp)

theorem own_emptyM8 {w : World} {b base : Nat} (h : w.heap[b]? = some (.cells #[] 71 (0, 0))) (hb : base ≤ b) : OwnM w base (.slice (some ⟨b, 0, none⟩) 0 0) [] :=
  ⟨by simp [mcels_nil], Or.inr ⟨b, 0, #[], rfl, hb, h, Nat.le_refl _, Nat.zero_le _, rfl, by simp [mcels_nil]⟩⟩

set_option maxRecDepth 100000 in
set_option maxHeartbeats 4000000 in
theorem sMot_any (LL : List (List Int)) (hn : LL.length ≤ 1048576) (hl : ∀ j, j < LL.length → (LL.getD j []).length ≤ 1048576) (a : Option Addr) (c : Nat) (w : World) (h : InRowL w a LL) :
    Calls Try.prog 41 #[.slice a LL.length c] w (RetMs w.heap.size (motM LL) (motC LL) w) := by
  obtain ⟨i0, hi, hz0, hz1, hz2⟩ := info_parts info_int
  have HIS := Lib.hid (sis8_any LL hn hl a c w h)
  cases hT : tblB LL
  · rw [hT] at HIS
    rw [motM_bad (by rw [motC_bad hT]; decide), motC_bad hT]
    clear hT h hl
    go_enter Try.func41, Try.ntmps41
    go_wp2_with fail
    refine HIS.out.mono ?_
    rintro e w1 ⟨rfl, hb⟩
    have HB := Lib.hid hb
    clear hb
    go_wp2_with fail
    go_ret2
    exact ⟨none, 0, rfl, ⟨by simp, Or.inl rfl⟩, HB.out⟩
  rw [hT] at HIS
  have hTB := h.tbl hT
  have HN := tblB_n hT
  by_cases h5 : LL.length ≤ 5
  rotate_left
  · rw [motM_bad (by rw [motC_big hT h5]; decide), motC_big hT h5]
    have h5' : (5 : Int) < (LL.length : Int) := by omega
    clear hT h hl hTB h5
    go_enter Try.func41, Try.ntmps41
    go_wp2_with fail
    refine HIS.out.mono ?_
    rintro e w1 ⟨rfl, hb⟩
    have HB := Lib.hid hb
    clear hb
    go_wp2_with fail
    go_ret2
    exact ⟨none, 0, rfl, ⟨by simp, Or.inl rfl⟩, HB.out⟩
  have h5' : ¬ ((5 : Int) < (LL.length : Int)) := by omega
  have HMO := Lib.hid fun wx (hb : Below w.heap.size w wx) => smon_any LL.length HN.2 (mp LL) a c wx (hTB.below hb)
  cases hM : monB LL.length (mp LL)
  · rw [hM] at HMO
    rw [motM_bad (by rw [motC_no hT h5 hM]; decide), motC_no hT h5 hM]
    clear hT h hl hTB hM
    go_enter Try.func41, Try.ntmps41
    go_wp2_with fail
    refine HIS.out.mono ?_
    rintro e w1 ⟨rfl, hb⟩
    have HB := Lib.hid hb
    have hsz := hb.size
    clear hb
    go_wp2_with fail
    refine (HMO.out _ HB.out).mono ?_
    rintro e w2 ⟨rfl, hb⟩
    have HB2 := Lib.hid hb
    clear hb
    go_wp2_with fail
    go_ret2
    exact ⟨none, 0, rfl, ⟨by simp, Or.inl rfl⟩, HB.out.trans (HB2.out.mono hsz)⟩
  rw [hM] at HMO
  rw [motM_good (motC_good hT h5 hM), motC_good hT h5 hM]
  obtain ⟨b, off, gr, ro, cr, rfl, ht⟩ := hTB
  have HT := Lib.hid ht
  have hn1 := HN.1
  clear hT h hl hM ht hn HN
  generalize LL.length = n at *
  generalize mp LL = mu at *
  go_enter Try.func41, Try.ntmps41
  go_wp2_with fail
  refine HIS.out.mono ?_
  rintro e w0 ⟨rfl, hb⟩
  have HB0 := Lib.hid hb
  have hsz0 := hb.size
  clear hb
  go_wp2_with fail
  refine (HMO.out _ HB0.out).mono ?_
  rintro e w1 ⟨rfl, hb⟩
  have HB : Hid (Below w.heap.size w w1) := Lib.hid (HB0.out.trans (hb.mono hsz0))
  have hsz := HB.out.size
  clear hb HMO HIS
  go_wp2_with fail
  go_loopw [4, 5, 6, 7] (fun v i _ _ wr => ∃ k : Nat, k ≤ n ∧ i = .int .i64 k ∧ OwnM wr w.heap.size v (motL mu n k) ∧ Below w.heap.size w wr) (fun _ i _ _ _ => n - (intOf i).toNat)
  case atStart => exact ⟨0, by omega, rfl, own_emptyM8 (halloc_at _ _ _ rfl) hsz, HB.out.alloc hsz _⟩
  case round =>
    obtain ⟨k, hk, rfl, hown, hb⟩ := hrel
    have HO := Lib.hid hown
    have HBR := Lib.hid hb
    have hzw := hb.size
    clear hb hown
    obtain ⟨wo, hwo⟩ : ∃ wo, wo = wr := ⟨_, rfl⟩
    subst hwo
    by_cases hkn : k < n
    · have hkn' : (k : Int) < (n : Int) := by omega
      go_wp2_with fail
      go_loopw [6, 7] (fun q i wr => ∃ j : Nat, j ≤ n ∧ i = .int .i64 j ∧ Own wr wo.heap.size q (colL mu k j) ∧ Below wo.heap.size wo wr) (fun _ i _ => n - (intOf i).toNat)
      case atStart => exact ⟨0, by omega, rfl, own_empty wo wo.heap.size (Nat.le_refl _), (Below.refl _ _).alloc (Nat.le_refl _) _⟩
      case round =>
        obtain ⟨j, hj, rfl, hown2, hb2⟩ := hrel
        have HB2 := Lib.hid hb2
        have hz2w := hb2.size
        clear hb2
        by_cases hjn : j < n
        · have hjn' : (j : Int) < (n : Int) := by omega
          have hT := (HT.out.below HBR.out).below HB2.out
          have e1 := hT.row j hjn
          have e2 := hT.val j k hjn hkn
          have hlen := colL_len mu k j
          have HSU := Lib.hid (colL_succ mu k j)
          clear hT
          generalize mu j k = X at *
          obtain ⟨CL, hCL⟩ : ∃ CL, CL = colL mu k j := ⟨_, rfl⟩
          rw [← hCL] at hown2 hlen HSU
          have HHL := Lib.hid hlen
          clear hCL hlen
          go_wp2_with (at_builtin; refine wpList_append_own _ rfl _ _ 23 rfl wo.heap.size 2 i0 (.int .i64 0) 1 8 Try.underlying23 hi hz0 hz1 hz2 rfl (by decide) _ _ _ rfl (World.ownsRow.alloc hown2 _) ⟨wr.heap.size, 0, none⟩ 1 1 [.int .i64 X] rfl rfl ?c1 ?c2 ?c3 ?c4 ?c5 ?_)
          case c1 =>
            intro j u hj
            match j, hj with
            | 0, hj => simp at hj; subst hj; simp [Addr.add]
          case c2 => intro u hu; simp at hu; subst hu; rfl
          case c3 => unfold maxLen; rw [HHL.out]; omega
          case c4 => rw [HHL.out]; omega
          case c5 => simp; omega
          intro v' w3 hown' hgrow _
          have hown3 : Hid (Own w3 wo.heap.size v' (colL mu k (j + 1))) := by
            refine Lib.hid ?_
            unfold Own
            rw [HSU.out]; simpa using hown'
          have hb3 : Hid (Below wo.heap.size wo w3) :=
            Lib.hid ((HB2.out.alloc hz2w _).grown hgrow (by simp; omega) (fun b hbk => by
              rcases hown2.2 with ⟨hv, _⟩ | ⟨g, cap, cur, hv, hg, _⟩
              · rw [hv] at hbk; cases hbk
              · rw [hv] at hbk; cases hbk; exact hg))
          clear hown' hgrow hown2
          go_wp2_with fail
          go_roundw
          case rel => exact ⟨j + 1, by omega, by go_num, hown3.out, hb3.out⟩
          case measure => simp [intOf]; omega
        · obtain rfl : j = n := by omega
          obtain ⟨ac, cc, rfl, hrd⟩ := own_rd hown2 (by rw [colL_len]; omega)
          have hmd := fun w h => made_any (colL mu k j) (by rw [colL_len]; omega) (by rw [colL_len]; omega) ac cc w h
          simp only [colL_len] at hmd ⊢
          have HMD := Lib.hid hmd
          have HRD := Lib.hid hrd
          have HSU := Lib.hid (motL_succ mu j k)
          have HML := Lib.hid (motL_len mu j k)
          clear hown2 hrd hmd
          obtain ⟨T, hT⟩ : ∃ T, T = tL (colL mu k j) := ⟨_, rfl⟩
          rw [← hT] at HMD HSU
          clear hT
          simp only [mv, mcells] at HMD
          go_wp2_with fail
          refine (HMD.out _ HRD.out.inRow).mono ?_
          rintro e w3 ⟨rfl, hb3⟩
          have HB3 : Hid (Below wo.heap.size wo w3) := Lib.hid (HB2.out.trans (hb3.mono hz2w))
          have hz3 := HB3.out.size
          clear hb3
          have HB4 : Hid (Below w.heap.size w (w3.alloc (.cells (mcells j T) 71))) := Lib.hid ((HBR.out.trans (HB3.out.mono hzw)).alloc (by omega) _)
          have HO3 := Lib.hid (ownM_keep HO.out HB3.out)
          go_wp2_with (at_builtin; refine wpList_appM rfl _ _ rfl w.heap.size _ (motL mu j k) rfl (ownM_keep HO3.out ((Below.refl _ _).alloc (Nat.le_refl _) _)) (some ⟨w3.heap.size, 0, none⟩) 1 [((j : Int), T)] (fun e => by cases e) rfl (Or.inr ⟨_, 0, rfl, by simp, at_one8 (halloc_at _ _ _ rfl)⟩) (by rw [HML.out]; simp; omega) (by simp; omega) ?_; intro v4 w4 hown4 hgrow4; have HO4 := Lib.hid hown4; have HB5 := Lib.hid (HB4.out.grown hgrow4 HB4.out.size (fun q e => (HO3.out.lt q e).1)); clear hown4 hgrow4)
          go_roundw
          case rel => exact ⟨k + 1, by omega, by go_num, by rw [HSU.out]; exact HO4.out, HB5.out⟩
          case measure => simp [intOf]; omega
    · obtain rfl : k = n := by omega
      obtain ⟨ac, cc, rfl, hrd⟩ := ownM_rd HO.out (by rw [motL_len]; omega)
      have HRD := Lib.hid hrd

      clear hrd HO
      go_wp2_with fail
      go_ret2
      exact ⟨ac, cc, rfl, HRD.out, HBR.out⟩

set_option maxRecDepth 100000 in
set_option maxHeartbeats 4000000 in
theorem iMot_any (LL : List (List Int)) (hn : LL.length ≤ 1048576) (hl : ∀ j, j < LL.length → (LL.getD j []).length ≤ 1048576) (a : Option Addr) (c : Nat) (w : World) (h : InRowL w a LL) :
    Calls Try.prog 42 #[.slice a LL.length c] w (RetMs w.heap.size (motM LL) (motC LL) w) := by
  obtain ⟨i0, hi, hz0, hz1, hz2⟩ := info_parts info_int
  have HIS := Lib.hid (iis8_any LL hn hl a c w h)
  cases hT : tblB LL
  · rw [hT] at HIS
    rw [motM_bad (by rw [motC_bad hT]; decide), motC_bad hT]
    clear hT h hl
    go_enter Try.func42, Try.ntmps42
    go_wp2_with fail
    refine HIS.out.mono ?_
    rintro e w1 ⟨rfl, hb⟩
    have HB := Lib.hid hb
    clear hb
    go_wp2_with fail
    go_ret2
    exact ⟨none, 0, rfl, ⟨by simp, Or.inl rfl⟩, HB.out⟩
  rw [hT] at HIS
  have hTB := h.tbl hT
  have HN := tblB_n hT
  by_cases h5 : LL.length ≤ 5
  rotate_left
  · rw [motM_bad (by rw [motC_big hT h5]; decide), motC_big hT h5]
    have h5' : (5 : Int) < (LL.length : Int) := by omega
    clear hT h hl hTB h5
    go_enter Try.func42, Try.ntmps42
    go_wp2_with fail
    refine HIS.out.mono ?_
    rintro e w1 ⟨rfl, hb⟩
    have HB := Lib.hid hb
    clear hb
    go_wp2_with fail
    go_ret2
    exact ⟨none, 0, rfl, ⟨by simp, Or.inl rfl⟩, HB.out⟩
  have h5' : ¬ ((5 : Int) < (LL.length : Int)) := by omega
  have HMO := Lib.hid fun wx (hb : Below w.heap.size w wx) => imon_any LL.length HN.2 (mp LL) a c wx (hTB.below hb)
  cases hM : monB LL.length (mp LL)
  · rw [hM] at HMO
    rw [motM_bad (by rw [motC_no hT h5 hM]; decide), motC_no hT h5 hM]
    clear hT h hl hTB hM
    go_enter Try.func42, Try.ntmps42
    go_wp2_with fail
    refine HIS.out.mono ?_
    rintro e w1 ⟨rfl, hb⟩
    have HB := Lib.hid hb
    have hsz := hb.size
    clear hb
    go_wp2_with fail
    refine (HMO.out _ HB.out).mono ?_
    rintro e w2 ⟨rfl, hb⟩
    have HB2 := Lib.hid hb
    clear hb
    go_wp2_with fail
    go_ret2
    exact ⟨none, 0, rfl, ⟨by simp, Or.inl rfl⟩, HB.out.trans (HB2.out.mono hsz)⟩
  rw [hM] at HMO
  rw [motM_good (motC_good hT h5 hM), motC_good hT h5 hM]
  obtain ⟨b, off, gr, ro, cr, rfl, ht⟩ := hTB
  have HT := Lib.hid ht
  have hn1 := HN.1
  clear hT h hl hM ht hn HN
  generalize LL.length = n at *
  generalize mp LL = mu at *
  go_enter Try.func42, Try.ntmps42
  go_wp2_with fail
  refine HIS.out.mono ?_
  rintro e w0 ⟨rfl, hb⟩
  have HB0 := Lib.hid hb
  have hsz0 := hb.size
  clear hb
  go_wp2_with fail
  refine (HMO.out _ HB0.out).mono ?_
  rintro e w1 ⟨rfl, hb⟩
  have HB : Hid (Below w.heap.size w w1) := Lib.hid (HB0.out.trans (hb.mono hsz0))
  have hsz := HB.out.size
  clear hb HMO HIS
  go_wp2_with fail
  go_loopw [5, 6, 7, 8, 20, 26] (fun v _ _ _ i _ wr => ∃ k : Nat, k ≤ n ∧ i = .int .i64 k ∧ OwnM wr w.heap.size v (motL mu n k) ∧ Below w.heap.size w wr) (fun _ _ _ _ i _ _ => n - (intOf i).toNat)
  case atStart => exact ⟨0, by omega, rfl, ownM_nil8 _ _, HB.out⟩
  case round =>
    obtain ⟨k, hk, rfl, hown, hb⟩ := hrel
    have HO := Lib.hid hown
    have HBR := Lib.hid hb
    have hzw := hb.size
    clear hb hown
    obtain ⟨wo, hwo⟩ : ∃ wo, wo = wr := ⟨_, rfl⟩
    subst hwo
    by_cases hkn : k < n
    · have hkn' : (k : Int) < (n : Int) := by omega
      go_wp2_with fail
      go_loopw [8, 26] (fun _ i wr => ∃ j : Nat, j ≤ n ∧ i = .int .i64 j ∧ Below wo.heap.size wo wr ∧ wo.heap.size < wr.heap.size ∧ wr.heap[wo.heap.size]? = some (.cells (mcells n (tLk (colL mu k n) j)) 71 (0, 0))) (fun _ i _ => n - (intOf i).toNat)
      case atStart =>
        refine ⟨0, by omega, rfl, ?_, by simp, ?_⟩
        · (repeat' (first | (with_reducible exact Below.refl _ _) | (with_reducible refine Below.alloc ?_ ?_ _) | (with_reducible refine Below.setCell ?_ ?_ _) | (with_reducible refine Below.drew ?_) | (with_reducible refine below_drewN ?_ _) | (with_reducible refine Below.trans ?_ (Below.mono (Hid.out (by assumption)) ?_)) | omega | (simp; done) | (simp; omega)))
        · exact halloc_at _ _ _ rfl
      case round =>
        obtain ⟨j, hj, rfl, hb2, hlt2, hbx⟩ := hrel
        have HB2 := Lib.hid hb2
        have HBX := Lib.hid hbx
        have hz2w := hb2.size
        clear hb2 hbx
        by_cases hjn : j < n
        · have hjn' : (j : Int) < (n : Int) := by omega
          have j5' : (j : Int) < 5 := by omega
          have hT := (HT.out.below HBR.out).below HB2.out
          have e1 := hT.row j hjn
          have e2 := hT.val j k hjn hkn
          have hok := blk_at HBX.out j (by omega)
          have hfr := blk_free HBX.out (1 + j)
          have hset := blk_set HBX.out j (by omega) ((colL mu k n).getD j 0)
          rw [tLk_succ, colL_at mu k n j hjn] at hset
          have HSET := Lib.hid hset
          clear hT hset
          generalize mu j k = X at *
          go_wp2_with fail
          go_roundw
          case rel => exact ⟨j + 1, by omega, by go_num, HB2.out.setCell (Nat.le_refl _) _, by simpa using hlt2, HSET.out⟩
          case measure => simp [intOf]; omega
        · obtain rfl : j = n := by omega
          have hall := tLk_all (colL mu k j)
          rw [colL_len] at hall
          have hbx := HBX.out
          rw [hall] at hbx
          have HSU := Lib.hid (motL_succ mu j k)
          have HML := Lib.hid (motL_len mu j k)
          obtain ⟨T, hT⟩ : ∃ T, T = tL (colL mu k j) := ⟨_, rfl⟩
          rw [← hT] at hbx HSU
          clear hT hall HBX
          obtain ⟨e0, e1, e2, e3, e4, e5⟩ := blk6 hbx
          clear hbx
          have HB4 : Hid (Below w.heap.size w (wr.alloc (.cells (mcells j T) 71))) := Lib.hid ((HBR.out.trans (HB2.out.mono hzw)).alloc (by omega) _)
          have HO3 := Lib.hid (ownM_keep HO.out HB2.out)
          go_wp2_with (at_builtin; refine wpList_appM rfl _ _ rfl w.heap.size _ (motL mu j k) rfl (ownM_keep HO3.out ((Below.refl _ _).alloc (Nat.le_refl _) _)) (some ⟨wr.heap.size, 0, none⟩) 1 [((j : Int), T)] (fun e => by cases e) rfl (Or.inr ⟨_, 0, rfl, by simp, at_one8 (halloc_at _ _ _ rfl)⟩) (by rw [HML.out]; simp; omega) (by simp; omega) ?_; intro v4 w4 hown4 hgrow4; have HO4 := Lib.hid hown4; have HB5 := Lib.hid (HB4.out.grown hgrow4 HB4.out.size (fun q e => (HO3.out.lt q e).1)); clear hown4 hgrow4)
          go_roundw
          case rel => exact ⟨k + 1, by omega, by go_num, by rw [HSU.out]; exact HO4.out, HB5.out⟩
          case measure => simp [intOf]; omega
    · obtain rfl : k = n := by omega
      obtain ⟨ac, cc, rfl, hrd⟩ := ownM_rd HO.out (by rw [motL_len]; omega)
      have HRD := Lib.hid hrd

      clear hrd HO
      go_wp2_with fail
      go_ret2
      exact ⟨ac, cc, rfl, HRD.out, HBR.out⟩

end Go.Proofs.Ytgiefgbpcjoieaa
