/- The points to which the maps of a list lead a point, told without Go. The contracts of spec.l10Orbit, spec.l10Code and spec.OrbitOf. The contracts of spec.l10Code and spec.OrbitOf. -/
import Derived.Test.YtpphihjbgikjkaaOrt
import Derived.Test.YtpphihjbgikjkaaChk
import Derived.Test.YtpphihjbgikjkaaBitm
import Derived.Test.YtpphihjbgikjkaaBits
import Derived.Test.YtpphihjbgikjkaaPoints
import Derived.Test.YtpphihjbgikjkaaGiven
import Derived.Deep.RegionHeld3
import Derived.Deep.DeepCutAuto
namespace Go.Proofs.Ytpphihjbgikjkaa
open Go Go.RowKit

/-- Where the map j of a list leads a point. -/
def stL (L : List MapN) (j x : Nat) : Nat := ((L.getD j z0).2 x).toNat

/-- What is told of a list of maps that is checked. -/
structure LOk (L : List MapN) (n : Nat) : Prop where
  len1 : 1 ≤ L.length
  len6 : L.length ≤ 6
  n1 : 1 ≤ n
  n5 : n ≤ 5
  pts : ∀ j, j < L.length → (L.getD j z0).1 = (n : Int)
  isb : ∀ j, j < L.length → isB (n : Int) (L.getD j z0).2 = true

theorem LOk.of {L : List MapN} (h : chkC L [] = 0) : ∃ n : Nat, LOk L n ∧ fst0 L = (n : Int) := by
  unfold chkC at h
  rw [List.append_nil] at h
  cases ha : allB L
  · rw [ha] at h; simp at h
  cases hs : sizeB L
  · rw [ha, hs] at h; simp at h
  cases hm : sameB (fst0 L) L
  · rw [ha, hs, hm] at h; simp at h
  unfold sizeB at hs
  simp only [Bool.and_eq_true, decide_eq_true_eq] at hs
  have h0 := allB_at ha 0 (by omega)
  obtain ⟨h1, h5⟩ := isB_pts h0
  obtain ⟨n, hn⟩ := Int.eq_ofNat_of_zero_le (show 0 ≤ fst0 L by unfold fst0; omega)
  have hn' : (L.getD 0 z0).1 = (n : Int) := hn
  refine ⟨n, ⟨hs.1, hs.2, by omega, by omega, fun j hj => by rw [sameB_at hm j hj]; exact hn, fun j hj => ?_⟩, hn⟩
  have := allB_at ha j hj
  rwa [sameB_at hm j hj, hn] at this

theorem LOk.eq {L : List MapN} {n : Nat} (h : LOk L n) : fst0 L = (n : Int) := h.pts 0 (by have := h.len1; omega)

theorem LOk.step {L : List MapN} {n : Nat} (h : LOk L n) {j x : Nat} (hj : j < L.length) (hx : x < n) : ((L.getD j z0).2 x) = (stL L j x : Int) ∧ stL L j x < n := by
  obtain ⟨h0, h1, _⟩ := ok_at (h.isb j hj) x (by omega)
  unfold stL
  omega

/-- A point is reached from c. -/
def Rch (L : List MapN) (c j : Nat) : Prop := ∀ Q : Nat → Prop, Q c → (∀ x, Q x → ∀ i, i < L.length → Q (stL L i x)) → Q j

theorem Rch.refl (L : List MapN) (c : Nat) : Rch L c c := fun _ h _ => h
theorem Rch.step {L : List MapN} {c x : Nat} (h : Rch L c x) {i : Nat} (hi : i < L.length) : Rch L c (stL L i x) := fun Q h0 hs => hs _ (h Q h0 hs) i hi
theorem Rch.trans {L : List MapN} {a b c : Nat} (h : Rch L a b) (h2 : Rch L b c) : Rch L a c := h2 (Rch L a) h (fun _ hx _ hi => hx.step hi)
theorem Rch.lt {L : List MapN} {n : Nat} (h : LOk L n) {c x : Nat} (hc : c < n) (hr : Rch L c x) : x < n := hr (fun x => x < n) hc (fun _ hx _ hi => (h.step hi hx).2)

open Classical in
/-- The points that are reached from c. -/
noncomputable def rchS (L : List MapN) (c : Nat) : Nat → Bool := fun j => decide (Rch L c j)
theorem rchS_true {L : List MapN} {c j : Nat} : rchS L c j = true ↔ Rch L c j := by classical exact decide_eq_true_iff

theorem orbt_rch {L : List MapN} {P : Nat → Prop} {c : Nat} {E : List Nat} (h : Orbt (stL L) L.length P c E) (x : Nat) : x ∈ E ↔ Rch L c x :=
  ⟨h.least (Rch L c) (Rch.refl L c) (fun _ hx _ _ hj => hx.step hj) x, fun hr => hr (fun x => x ∈ E) h.first (fun x hx i hi => h.closed x hx i hi)⟩

theorem memB_in (L : List Int) (j : Nat) : memB L j = true ↔ (j : Int) ∈ L := by
  unfold memB memK
  rw [List.any_eq_true]
  constructor
  · rintro ⟨i, hi, he⟩
    rw [List.mem_range] at hi
    rw [beq_iff_eq] at he
    rw [← he, List.getD_eq_getElem?_getD, List.getElem?_eq_getElem hi]
    exact List.getElem_mem hi
  · intro h
    obtain ⟨i, hi, he⟩ := List.getElem_of_mem h
    refine ⟨i, List.mem_range.2 hi, ?_⟩
    rw [beq_iff_eq, List.getD_eq_getElem?_getD, List.getElem?_eq_getElem hi]
    exact he

/-- A set closed under the maps that holds c and of which all is reached is what is reached. -/
theorem rchS_of {L : List MapN} {n : Nat} (hok : LOk L n) {c : Nat} {s : Nat → Bool} (hc : s c = true) (hr : ∀ j, s j = true → Rch L c j) (hcl : ∀ i, i < L.length → ∀ j, movK (L.getD i z0).2 s n j = true → s j = true) (hcn : c < n) : s = rchS L c := by
  have hin : ∀ x, Rch L c x → x < n ∧ s x = true := fun x hx => hx (fun x => x < n ∧ s x = true) ⟨hcn, hc⟩ (fun y ⟨hy, hs⟩ i hi => by
    obtain ⟨he, hl⟩ := hok.step hi hy
    refine ⟨hl, hcl i hi _ ?_⟩
    unfold movK
    rw [List.any_eq_true]
    exact ⟨y, List.mem_range.2 hy, by rw [hs, he]; simp⟩)
  funext j
  cases hj : s j
  · cases hk : rchS L c j
    · rfl
    · rw [(hin j (rchS_true.1 hk)).2] at hj; cases hj
  · exact (rchS_true.2 (hr j hj)).symm

/-- Two sets put together. -/
def unB (a b : Nat → Bool) : Nat → Bool := fun j => a j || b j
theorem or_bits : ∀ a0 a1 a2 a3 a4 b0 b1 b2 b3 b4 : Bool, bits BinOp.or IntKind.i64 (bi a0 1 + bi a1 2 + bi a2 4 + bi a3 8 + bi a4 16) (bi b0 1 + bi b1 2 + bi b2 4 + bi b3 8 + bi b4 16) = bi (a0 || b0) 1 + bi (a1 || b1) 2 + bi (a2 || b2) 4 + bi (a3 || b3) 8 + bi (a4 || b4) 16 := by decide +kernel
theorem or_masks (a b : Nat → Bool) : bits BinOp.or IntKind.i64 (mask a) (mask b) = mask (unB a b) := or_bits _ _ _ _ _ _ _ _ _ _

theorem ext_bits : ∀ a0 a1 a2 a3 a4 b0 b1 b2 b3 b4 : Bool, bi a0 1 + bi a1 2 + bi a2 4 + bi a3 8 + bi a4 16 = bi b0 1 + bi b1 2 + bi b2 4 + bi b3 8 + bi b4 16 → a0 = b0 ∧ a1 = b1 ∧ a2 = b2 ∧ a3 = b3 ∧ a4 = b4 := by decide +kernel
theorem mask_ext {a b : Nat → Bool} (h : mask a = mask b) : ∀ j, j < 5 → a j = b j := by
  obtain ⟨h0, h1, h2, h3, h4⟩ := ext_bits _ _ _ _ _ _ _ _ _ _ h
  intro j hj
  rcases (by omega : j = 0 ∨ j = 1 ∨ j = 2 ∨ j = 3 ∨ j = 4) with rfl | rfl | rfl | rfl | rfl <;> assumption

theorem mask_un_le (a b : Nat → Bool) : mask a ≤ mask (unB a b) := by
  unfold mask unB bi
  have h : ∀ x y : Bool, ∀ k : Int, 0 ≤ k → (if x = true then k else 0) ≤ (if (x || y) = true then k else 0) := fun x y k hk => by cases x <;> cases y <;> simp <;> omega
  have := h (a 0) (b 0) 1 (by omega)
  have := h (a 1) (b 1) 2 (by omega)
  have := h (a 2) (b 2) 4 (by omega)
  have := h (a 3) (b 3) 8 (by omega)
  have := h (a 4) (b 4) 16 (by omega)
  omega

end Go.Proofs.Ytpphihjbgikjkaa

namespace Go.Proofs.Ytpphihjbgikjkaa
open Go Go.RowKit

/-- 1 at what is true. -/
def oneOf : Value → Nat
  | .bool true => 1
  | _ => 0

theorem mask_one (c : Nat) (h : c < 5) : wrap64 (2 ^ c) = mask (setB (fun _ => false) c) := by
  rcases (by omega : c = 0 ∨ c = 1 ∨ c = 2 ∨ c = 3 ∨ c = 4) with rfl | rfl | rfl | rfl | rfl <;> decide +kernel

theorem movK_in {t : Nat → Int} {s : Nat → Bool} {k j : Nat} (h : movK t s k j = true) : ∃ i, i < k ∧ s i = true ∧ t i = (j : Int) := by
  unfold movK at h
  rw [List.any_eq_true] at h
  obtain ⟨i, hi, he⟩ := h
  rw [Bool.and_eq_true, beq_iff_eq] at he
  exact ⟨i, List.mem_range.1 hi, he.1, he.2⟩

set_option maxRecDepth 100000 in
set_option maxHeartbeats 4000000 in
theorem sorb_any (L : List MapN) {n : Nat} (hok : LOk L n) (c : Nat) (hc : c < n) (a : Option Addr) (cap : Nat) (w : World) (hr : InRowM w a L) :
    Calls Try.prog 35 #[.slice a L.length cap, .int .i64 (c : Int)] w fun e w' => e = .returned (.int .i64 (mask (rchS L c))) ∧ Below w.heap.size w w' := by
  have hn5 := hok.n5
  have hl6 := hok.len6
  have HK := Lib.hid hok
  have HR := Lib.hid hr
  have h1 := mask_one c (by omega)
  have hc5 : (c : Int) < 5 := by omega
  clear hok hr
  obtain ⟨s0, hs0⟩ : ∃ s0, s0 = setB (fun _ => false) c := ⟨_, rfl⟩
  rw [← hs0] at h1
  have HS0 := Lib.hid hs0
  have H1 := Lib.hid h1
  clear hs0 h1
  go_enter Try.func35, Try.ntmps35
  go_wp2_with fail
  go_loopw [5, 6, 7, 8] (fun v m _ _ wr => ∃ (s : Nat → Bool) (mo : Bool), v = .int .i64 (mask s) ∧ m = .bool mo ∧ s c = true ∧ (∀ j, s j = true → Rch L c j) ∧ (mo = false → ∀ i, i < L.length → ∀ j, movK (L.getD i z0).2 s n j = true → s j = true) ∧ Below w.heap.size w wr)
    (fun v m _ _ _ => 2 * (31 - intOf v).toNat + oneOf m)
  case atStart =>
    refine ⟨s0, true, by rw [H1.out], rfl, by rw [HS0.out]; simp [setB], fun j hj => ?_, fun h => by simp at h, Below.refl _ _⟩
    rw [HS0.out] at hj
    unfold setB at hj
    by_cases e : j = c
    · rw [e]; exact Rch.refl L c
    · rw [if_neg e] at hj; cases hj
  case round =>
    obtain ⟨s, mo, rfl, rfl, hsc, hsr, hcl, hb⟩ := hrel
    have HSC := Lib.hid hsc
    have HSR := Lib.hid hsr
    have HB := Lib.hid hb
    have hMd := mask_bd s
    obtain ⟨wo, hwo⟩ : ∃ wo, wo = wr := ⟨_, rfl⟩
    subst hwo
    cases mo
    · have HE := Lib.hid (rchS_of HK.out hsc hsr (hcl rfl) hc)
      clear hsc hsr hcl hb
      go_wp2_with fail
      go_ret
      exact ⟨by rw [HE.out]; rfl, HB.out⟩
    · clear hsc hsr hcl hb
      obtain ⟨M0, hM0⟩ : ∃ M0, M0 = mask s := ⟨_, rfl⟩
      rw [← hM0] at hMd ⊢
      have HM0 := Lib.hid hM0
      clear hM0
      go_wp2_with fail
      go_loopw [5, 6, 7, 8] (fun v m i _ wx => ∃ (k : Nat) (s2 : Nat → Bool) (mo : Bool), k ≤ L.length ∧ i = .int .i64 (k : Int) ∧ v = .int .i64 (mask s2) ∧ m = .bool mo ∧ s2 c = true ∧ (∀ j, s2 j = true → Rch L c j) ∧
          ((mo = false ∧ mask s2 = M0 ∧ ∀ i, i < k → ∀ j, movK (L.getD i z0).2 s2 n j = true → s2 j = true) ∨ (mo = true ∧ M0 < mask s2)) ∧ Below w.heap.size w wx) (fun _ _ i _ _ => L.length - (intOf i).toNat)
      case atStart => exact ⟨0, s, false, by omega, rfl, by rw [HM0.out], rfl, HSC.out, HSR.out, Or.inl ⟨rfl, HM0.out.symm, fun i hi => by omega⟩, HB.out⟩
      case round =>
        clear hMd
        obtain ⟨k, s2, mo, hk, rfl, rfl, rfl, hsc, hsr, hcs, hb⟩ := hrel
        have HSC := Lib.hid hsc
        have HSR := Lib.hid hsr
        have HCS := Lib.hid hcs
        have HBX := Lib.hid hb
        have hMd := mask_bd s2
        by_cases hkl : k < L.length
        · have hkl' : (k : Int) < (L.length : Int) := by omega
          obtain ⟨b, off, rfl, hbl, x0, x1, x2, x3, x4, x5⟩ := (HR.out.below hb).at6 k hkl
          rw [HK.out.pts k hkl] at x0
          have HMV := Lib.hid fun w => smoved_any (n : Int) (L.getD k z0).2 (HK.out.isb k hkl) s2 w
          simp only [Int.toNat_natCast] at HMV
          have hor := or_masks s2 (movK (L.getD k z0).2 s2 n)
          have hle := mask_un_le s2 (movK (L.getD k z0).2 s2 n)
          have hbd := mask_bd (unB s2 (movK (L.getD k z0).2 s2 n))
          have HU1 : Hid (unB s2 (movK (L.getD k z0).2 s2 n) c = true) := Lib.hid (by unfold unB; rw [hsc]; rfl)
          have HU2 : Hid (∀ j, unB s2 (movK (L.getD k z0).2 s2 n) j = true → Rch L c j) := Lib.hid fun j hj => by
            unfold unB at hj
            rw [Bool.or_eq_true] at hj
            rcases hj with hj | hj
            · exact hsr j hj
            · obtain ⟨i, hi, hs, he⟩ := movK_in hj
              obtain ⟨e2, _⟩ := HK.out.step hkl hi
              rw [e2] at he
              have : stL L k i = j := by omega
              rw [← this]
              exact (hsr i hs).step hkl
          have HU3 : Hid (mask (unB s2 (movK (L.getD k z0).2 s2 n)) = mask s2 → ∀ j, movK (L.getD k z0).2 s2 n j = true → s2 j = true) := Lib.hid fun he j hj => by
            have hj5 : j < 5 := by
              obtain ⟨i, hi, hs, h2⟩ := movK_in hj
              obtain ⟨e2, e3⟩ := HK.out.step hkl hi
              omega
            rw [← mask_ext he j hj5]
            unfold unB
            rw [hj, Bool.or_true]
          clear hsc hsr hcs hb
          generalize hMV : movK (L.getD k z0).2 s2 n = mv2 at *
          generalize hUN : unB s2 mv2 = un at *
          generalize hT : (L.getD k z0).2 = t at *
          have HT := Lib.hid hT
          have hszx := HBX.out.size
          clear hT
          simp only [mv, mcells] at HMV
          by_cases he : mask un = mask s2
          · rw [he] at hor
            have HC3 := Lib.hid (HU3.out he)
            clear he hle hbd hUN
            generalize hS : mask s2 = S at *
            have HSS := Lib.hid hS
            clear hS
            generalize mask mv2 = V at *
            go_wp2_with fail
            refine (HMV.out _).mono ?_
            rintro e w1 ⟨rfl, hb1⟩
            have HB1 := Lib.hid hb1
            clear hb1
            go_wp2_with fail
            go_roundw
            case rel =>
              refine ⟨k + 1, s2, mo, by omega, by go_num, by rw [HSS.out], rfl, HSC.out, HSR.out, ?_, by (repeat' (first | (with_reducible exact Below.refl _ _) | (with_reducible refine Below.alloc ?_ ?_ _) | (with_reducible refine Below.setCell ?_ ?_ _) | (with_reducible refine Below.drew ?_) | (with_reducible refine below_drewN ?_ _) | (with_reducible refine Below.trans ?_ (Below.mono (Hid.out (by assumption)) ?_)) | omega | (simp; done) | (simp; omega)))⟩
              rcases HCS.out with ⟨h1, h2, h3⟩ | h
              · refine Or.inl ⟨h1, HSS.out.trans h2, fun i hi j hj => ?_⟩
                by_cases e : i = k
                · rw [e, HT.out, hMV] at hj; exact HC3.out j hj
                · exact h3 i (by omega) j hj
              · exact Or.inr ⟨h.1, by rw [HSS.out]; exact h.2⟩
            case measure => simp [intOf]; omega
          · have HLT : Hid (mask s2 < mask un) := Lib.hid (by omega)
            have hne : ¬ (mask un = mask s2) := he
            clear he hle
            generalize hS : mask s2 = S at *
            generalize hUU : mask un = U at *
            have HSS := Lib.hid hS
            have HUU := Lib.hid hUU
            clear hS hUU hUN
            generalize mask mv2 = V at *
            go_wp2_with fail
            refine (HMV.out _).mono ?_
            rintro e w1 ⟨rfl, hb1⟩
            have HB1 := Lib.hid hb1
            clear hb1
            go_wp2_with fail
            go_roundw
            case rel =>
              refine ⟨k + 1, un, true, by omega, by go_num, by rw [HUU.out], rfl, HU1.out, HU2.out, Or.inr ⟨rfl, ?_⟩, by (repeat' (first | (with_reducible exact Below.refl _ _) | (with_reducible refine Below.alloc ?_ ?_ _) | (with_reducible refine Below.setCell ?_ ?_ _) | (with_reducible refine Below.drew ?_) | (with_reducible refine below_drewN ?_ _) | (with_reducible refine Below.trans ?_ (Below.mono (Hid.out (by assumption)) ?_)) | omega | (simp; done) | (simp; omega)))⟩
              have := HLT.out
              have e1 := HUU.out
              rcases HCS.out with ⟨h1, h2, h3⟩ | ⟨_, h⟩ <;> omega
            case measure => simp [intOf]; omega
        · obtain rfl : k = L.length := by omega
          have hkl' : ¬ ((L.length : Int) < (L.length : Int)) := by omega
          have HMM : Hid (mo = false ∨ M0 < mask s2) := Lib.hid (by rcases hcs with h | h; exact Or.inl h.1; exact Or.inr h.2)
          clear hsc hsr hcs hb
          go_wp2_with fail
          go_roundw
          case rel =>
            refine ⟨s2, mo, rfl, rfl, HSC.out, HSR.out, fun h => ?_, HBX.out⟩
            rcases HCS.out with h1 | h1
            · exact h1.2.2
            · rw [h1.1] at h; cases h
          case measure =>
            rcases HMM.out with rfl | h
            · rcases HCS.out with h1 | h1
              · rw [h1.2.1]; simp [intOf, oneOf]
              · cases h1.1
            · cases mo <;> simp [intOf, oneOf] <;> omega

end Go.Proofs.Ytpphihjbgikjkaa

namespace Go.Proofs.Ytpphihjbgikjkaa
open Go Go.RowKit

/-- The code of a list and a point. -/
def orbC (L : List MapN) (p : Int) : Int := if chkC L [] = 0 then (if inB p 0 (fst0 L - 1) = true then 0 else 2) else chkC L []
/-- The points to which a list leads a point. -/
noncomputable def orbL (L : List MapN) (p : Int) : List Int := if orbC L p = 0 then asc (rchS L p.toNat) else []

theorem orbC_good {L : List MapN} {p : Int} (h : chkC L [] = 0) (hb : inB p 0 (fst0 L - 1) = true) : orbC L p = 0 := by unfold orbC; rw [if_pos h, if_pos hb]
theorem orbC_out {L : List MapN} {p : Int} (h : chkC L [] = 0) (hb : inB p 0 (fst0 L - 1) = false) : orbC L p = 2 := by unfold orbC; rw [if_pos h, if_neg (by rw [hb]; exact Bool.false_ne_true)]
theorem orbC_bad {L : List MapN} {p : Int} (h : chkC L [] ≠ 0) : orbC L p = chkC L [] := by unfold orbC; rw [if_neg h]
theorem orbL_good {L : List MapN} {p : Int} (h : orbC L p = 0) : orbL L p = asc (rchS L p.toNat) := by unfold orbL; rw [if_pos h]
theorem orbL_bad {L : List MapN} {p : Int} (h : orbC L p ≠ 0) : orbL L p = [] := by unfold orbL; rw [if_neg h]

set_option maxRecDepth 100000 in
set_option maxHeartbeats 4000000 in
theorem sco10_any (L : List MapN) (hl1 : L.length ≤ 1048576) (p : Int) (a : Option Addr) (cap : Nat) (w : World) (hr : InRowM w a L) :
    Calls Try.prog 33 #[.slice a L.length cap, .int .i64 p] w fun e w' => e = .returned (.int .i64 (orbC L p)) ∧ Below w.heap.size w w' := by
  have HG := Lib.hid (given_any a none cap 0 L [] hl1 (by simp) w hr (Or.inl rfl))
  by_cases hC : chkC L [] = 0
  · obtain ⟨n, hok, hn⟩ := LOk.of hC
    have hn1 := hok.n1
    have hn5 := hok.n5
    obtain ⟨b, off, rfl, hbl, hat⟩ := hr.at0 (by have := hok.len1; omega)
    have h0 := hat.1
    rw [hok.pts 0 (by have := hok.len1; omega)] at h0
    have hl : 0 < L.length := by have := hok.len1; omega
    have hl' : (0 : Int) < (L.length : Int) := by omega
    have HIN := Lib.hid fun w => in_any p 0 ((n : Int) - 1) w
    cases hb : inB p 0 (fst0 L - 1)
    · rw [orbC_out hC hb]
      rw [hn] at hb
      rw [hb] at HIN
      rw [hC] at HG
      clear hC hat hok hn hr hb
      go_enter Try.func33, Try.ntmps33
      go_wp2_with fail
      refine HG.out.mono ?_
      rintro e w1 ⟨rfl, hb⟩
      have HB := Lib.hid hb
      have hx := (hb.cell (p := ⟨b, off, none⟩) hbl).trans h0
      have hbl1 : b < w1.heap.size := by have := hb.size; omega
      clear hb h0
      go_wp2_with fail
      refine (HIN.out _).mono ?_
      rintro e w1 ⟨rfl, rfl⟩
      go_wp2_with fail
      go_ret
      exact ⟨rfl, by (repeat' (first | (with_reducible exact Below.refl _ _) | (with_reducible refine Below.alloc ?_ ?_ _) | (with_reducible refine Below.setCell ?_ ?_ _) | (with_reducible refine Below.drew ?_) | (with_reducible refine below_drewN ?_ _) | (with_reducible refine Below.trans ?_ (Below.mono (Hid.out (by assumption)) ?_)) | omega | (simp; done) | (simp; omega)))⟩
    · rw [orbC_good hC hb]
      rw [hn] at hb
      rw [hb] at HIN
      rw [hC] at HG
      clear hC hat hok hn hr hb
      go_enter Try.func33, Try.ntmps33
      go_wp2_with fail
      refine HG.out.mono ?_
      rintro e w1 ⟨rfl, hb⟩
      have HB := Lib.hid hb
      have hx := (hb.cell (p := ⟨b, off, none⟩) hbl).trans h0
      have hbl1 : b < w1.heap.size := by have := hb.size; omega
      clear hb h0
      go_wp2_with fail
      refine (HIN.out _).mono ?_
      rintro e w1 ⟨rfl, rfl⟩
      go_wp2_with fail
      go_ret
      exact ⟨rfl, by (repeat' (first | (with_reducible exact Below.refl _ _) | (with_reducible refine Below.alloc ?_ ?_ _) | (with_reducible refine Below.setCell ?_ ?_ _) | (with_reducible refine Below.drew ?_) | (with_reducible refine below_drewN ?_ _) | (with_reducible refine Below.trans ?_ (Below.mono (Hid.out (by assumption)) ?_)) | omega | (simp; done) | (simp; omega)))⟩
  · rw [orbC_bad hC]
    have hne : (chkC L [] == 0) = false := by simpa using hC
    clear hr hC
    generalize chkC L [] = C at *
    go_enter Try.func33, Try.ntmps33
    go_wp2_with fail
    refine HG.out.mono ?_
    rintro e w1 ⟨rfl, hb⟩
    have HB := Lib.hid hb
    clear hb
    go_wp2_with fail
    go_ret
    exact ⟨rfl, by (repeat' (first | (with_reducible exact Below.refl _ _) | (with_reducible refine Below.alloc ?_ ?_ _) | (with_reducible refine Below.setCell ?_ ?_ _) | (with_reducible refine Below.drew ?_) | (with_reducible refine below_drewN ?_ _) | (with_reducible refine Below.trans ?_ (Below.mono (Hid.out (by assumption)) ?_)) | omega | (simp; done) | (simp; omega)))⟩

set_option maxRecDepth 100000 in
set_option maxHeartbeats 4000000 in
theorem sOrb_any (L : List MapN) (hl1 : L.length ≤ 1048576) (p : Int) (a : Option Addr) (cap : Nat) (_ : a = none → cap = 0) (w : World) (hr : InRowM w a L) :
    Calls Try.prog 13 #[.slice a L.length cap, .int .i64 p] w (RetRow w.heap.size (orbL L p) (orbC L p) w) := by
  have HC := Lib.hid (sco10_any L hl1 p a cap w hr)
  by_cases hC : orbC L p = 0
  · rw [orbL_good hC, hC]
    rw [hC] at HC
    have hck : chkC L [] = 0 := by
      by_cases h : chkC L [] = 0
      · exact h
      · rw [orbC_bad h] at hC; exact absurd hC h
    have hin : inB p 0 (fst0 L - 1) = true := by
      cases h : inB p 0 (fst0 L - 1)
      · rw [orbC_out hck h] at hC; cases hC
      · rfl
    obtain ⟨n, hok, hn⟩ := LOk.of hck
    have hpn := inB_true.1 hin
    rw [hn] at hpn
    obtain ⟨q, rfl⟩ := Int.eq_ofNat_of_zero_le hpn.1
    have HO := Lib.hid fun wx (hb : Below w.heap.size w wx) => sorb_any L hok q (by omega) a cap wx (hr.below hb)
    have HP := Lib.hid fun w => spoints_any (rchS L q) w
    have HLen : Hid ((asc (rchS L q)).length ≤ 2000000) := Lib.hid (by have := ascK_len (rchS L q) 5; unfold asc; omega)
    simp only [Int.toNat_natCast]
    clear hr hC hck hin hok hn hpn
    generalize asc (rchS L q) = R at *
    generalize mask (rchS L q) = M at *
    go_enter Try.func13, Try.ntmps13
    go_wp2_with fail
    refine HC.out.mono ?_
    rintro e w1 ⟨rfl, hb⟩
    have HB1 := Lib.hid hb
    clear hb
    go_wp2_with fail
    refine (HO.out _ HB1.out).mono ?_
    rintro e w2 ⟨rfl, hb⟩
    have HB2 := Lib.hid hb
    have hz1 := HB1.out.size
    have hz2 := hb.size
    clear hb
    go_wp2_with fail
    refine (HP.out _).mono ?_
    rintro e w3 ⟨v, rfl, hown, hb⟩
    obtain ⟨ax, cx, rfl, hrd⟩ := own_rd hown HLen.out
    have HB3 := Lib.hid hb
    have HRD := Lib.hid hrd
    clear hown hb hrd
    go_wp2_with fail
    go_ret2
    exact ⟨_, _, rfl, HRD.out.mono (by omega), by (repeat' (first | (with_reducible exact Below.refl _ _) | (with_reducible refine Below.alloc ?_ ?_ _) | (with_reducible refine Below.setCell ?_ ?_ _) | (with_reducible refine Below.drew ?_) | (with_reducible refine below_drewN ?_ _) | (with_reducible refine Below.trans ?_ (Below.mono (Hid.out (by assumption)) ?_)) | omega | (simp; done) | (simp; omega)))⟩
  · rw [orbL_bad hC]
    have hne : (orbC L p != 0) = true := by simpa using hC
    clear hr hC
    generalize orbC L p = C at *
    go_enter Try.func13, Try.ntmps13
    go_wp2_with fail
    refine HC.out.mono ?_
    rintro e w1 ⟨rfl, hb⟩
    have HB1 := Lib.hid hb
    clear hb
    go_wp2_with fail
    go_ret2
    exact ⟨none, 0, rfl, ⟨by simp, Or.inl rfl⟩, HB1.out⟩

end Go.Proofs.Ytpphihjbgikjkaa
