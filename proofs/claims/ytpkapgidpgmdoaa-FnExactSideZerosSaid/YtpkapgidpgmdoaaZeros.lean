/- The contract of spec.l02Zeros: the left zeros or the right zeros among the elements. -/
import Derived.Test.YtpkapgidpgmdoaaFilt
import Derived.Test.YtpkapgidpgmdoaaIzero
namespace Go.Proofs.Ytpkapgidpgmdoaa
open Go.RowKit Go.Maps

/-- Whether an element is a zero of one side among elements. -/
def zsB (p : Int) (r : Bool) (z c : Nat) : Bool := if r then zrB p (dcd z) (dcd c) else zlB p (dcd z) (dcd c)
def zsA (p : Int) (r : Bool) (K : List Nat) (z : Nat) : Bool := K.all fun c => zsB p r z c

theorem zsA_succ {p : Int} {r : Bool} {K : List Nat} {z : Nat} (m : Nat) (hm : m < K.length) : zsA p r (K.take (m + 1)) z = (zsA p r (K.take m) z && zsB p r z (K.getD m 0)) := by
  unfold zsA
  rw [List.take_add_one, List.getElem?_eq_getElem hm, List.getD_eq_getElem?_getD, List.getElem?_eq_getElem hm, List.all_append]
  simp

theorem zsA_stop {p : Int} {r : Bool} {K : List Nat} {z : Nat} (m : Nat) (h : zsA p r (K.take m) z = false) : zsA p r K z = false := by
  unfold zsA at *
  rw [List.all_eq_false] at *
  obtain ⟨x, hx, hz⟩ := h
  exact ⟨x, List.mem_of_mem_take hx, hz⟩

set_option maxRecDepth 100000 in
set_option maxHeartbeats 4000000 in
theorem szer_any {p : Int} (r : Bool) {K : List Nat} (hK : ∀ c ∈ K, vld p c) (hn : K.length ≤ 300) (a1 : Option Addr) (c1 : Nat) (w : World) (hr1 : InRowM w a1 (mE p K)) :
    Calls Try.prog 85 #[.slice a1 K.length c1, .bool r] w
      fun e w' => ∃ a cap, e = .returned (.slice a (K.filter fun c => zsA p r K c).length cap) ∧ RdM w' w.heap.size a (mE p (K.filter fun c => zsA p r K c)) ∧ Below w.heap.size w w' := by
  have HVL := Lib.hid hK
  have HR1 := Lib.hid hr1
  clear hK hr1
  go_enter Try.func85, Try.ntmps85
  go_wp2_with fail
  go_loopw [5, 6, 7, 8] (fun v i _ _ wr => ∃ k : Nat, k ≤ K.length ∧ i = .int .i64 k ∧ Below w.heap.size w wr ∧ OwnM wr w.heap.size v (mE p ((K.take k).filter fun c => zsA p r K c))) (fun _ i _ _ _ => K.length - (intOf i).toNat)
  case atStart => exact ⟨0, by omega, rfl, (Below.refl _ _).alloc (Nat.le_refl _) _, own_emptyM (halloc_at _ _ _ rfl) (Nat.le_refl _)⟩
  case round =>
    obtain ⟨k, hk, rfl, hb, hown⟩ := hrel
    have HBR := Lib.hid hb
    have HOW := Lib.hid hown
    have hsr := hb.size
    clear hb hown
    by_cases hkl : k < K.length
    · have hkl' : (k : Int) < (K.length : Int) := by omega
      obtain ⟨b1, o1, rfl, hl1, hat1⟩ := (HR1.out.below HBR.out).at6 k (by rw [mE_len]; exact hkl)
      rw [mE_at _ _ _ hkl] at hat1
      have hfl := filt_le (fun c => zsA p r K c) K k
      have HFS := Lib.hid (filt_succ (fun c => zsA p r K c) K k hkl)
      have HV := Lib.hid (HVL.out (K.getD k 0) (getD_mem hkl))
      obtain ⟨x0, x1, x2, x3, x4, x5⟩ := hat1
      simp only [] at x0 x1 x2 x3 x4 x5
      generalize hMM : ((K.take k).filter fun c => zsA p r K c) = MM at *
      generalize K.getD k 0 = x at *
      go_wp2_with fail
      obtain ⟨wo, hwo⟩ : ∃ wo, wo = wr := ⟨_, rfl⟩
      subst hwo
      go_loopw [7, 8] (fun g i2 wr => ∃ m : Nat, m ≤ K.length ∧ i2 = .int .i64 m ∧ g = .bool (zsA p r (K.take m) x) ∧ Below wo.heap.size wo wr) (fun _ i2 _ => K.length - (intOf i2).toNat)
      case atStart => exact ⟨0, by omega, rfl, rfl, Below.refl _ _⟩
      case round =>
        obtain ⟨m, hm, rfl, rfl, hb2⟩ := hrel
        have HB2 := Lib.hid hb2
        have hs2 := hb2.size
        have y0 := (hb2.cell (p := ⟨b1, _, none⟩) hl1).trans x0
        have y1 := (hb2.cell (p := ⟨b1, _, none⟩) hl1).trans x1
        have y2 := (hb2.cell (p := ⟨b1, _, none⟩) hl1).trans x2
        have y3 := (hb2.cell (p := ⟨b1, _, none⟩) hl1).trans x3
        have y4 := (hb2.cell (p := ⟨b1, _, none⟩) hl1).trans x4
        have y5 := (hb2.cell (p := ⟨b1, _, none⟩) hl1).trans x5
        have HO3 := Lib.hid (ownM_bel HOW.out hb2)
        have hbb : Below w.heap.size w wr := HBR.out.trans (hb2.mono hsr)
        have HB3 := Lib.hid hbb
        have hsz3 := hbb.size
        have HB4 : Hid (Below w.heap.size w (wr.alloc (.cells (mcells p (dcd x)) 39))) := Lib.hid (hbb.alloc (by omega) _)
        clear hb2 hbb x0 x1 x2 x3 x4 x5
        have HDONE : Hid (∀ (B : Bool), zsA p r K x = B → (m = K.length ∨ zsA p r (K.take m) x = false) → zsA p r (K.take m) x = B) := Lib.hid fun B e h => by
          rcases h with h | h
          · rw [h, List.take_length]; exact e
          · rw [h, ← e, zsA_stop m h]
        by_cases hgo : m < K.length ∧ zsA p r (K.take m) x = true
        · obtain ⟨hml, hG⟩ := hgo
          have hml' : (m : Int) < (K.length : Int) := by omega
          have HCS := Lib.hid (zsA_succ (p := p) (r := r) (z := x) m hml)
          rw [hG] at HCS ⊢
          obtain ⟨b2, o2, eb, hl2, hat2⟩ := (HR1.out.below (HBR.out.trans (HB2.out.mono hsr))).at6 m (by rw [mE_len]; exact hml)
          injection eb with eb
          injection eb with eb1 eb2 _
          rw [mE_at _ _ _ hml] at hat2
          obtain ⟨t0, t1, t2, t3, t4, t5⟩ := hat2
          simp only [] at t0 t1 t2 t3 t4 t5
          have HT := Lib.hid (HVL.out (K.getD m 0) (getD_mem hml))
          generalize K.getD m 0 = t at *
          have hl1' : b1 < wr.heap.size := by omega
          obtain ⟨CB, hCB⟩ : ∃ CB, CB = zsB p r x t := ⟨_, rfl⟩
          have HCB := Lib.hid hCB
          rw [← hCB] at HCS
          clear hCB hG
          have r0 : ∀ z, Below wr.heap.size wr z → z.cell? ⟨b1, o1 + k * 6, none⟩ = some (.int .i64 p) := fun z h => (h.cell (p := ⟨b1, _, none⟩) hl1').trans y0
          have r1 : ∀ z, Below wr.heap.size wr z → z.cell? ⟨b1, o1 + k * 6 + 1, none⟩ = some (.int .i64 (dcd x 0)) := fun z h => (h.cell (p := ⟨b1, _, none⟩) hl1').trans y1
          have r2 : ∀ z, Below wr.heap.size wr z → z.cell? ⟨b1, o1 + k * 6 + 2, none⟩ = some (.int .i64 (dcd x 1)) := fun z h => (h.cell (p := ⟨b1, _, none⟩) hl1').trans y2
          have r3 : ∀ z, Below wr.heap.size wr z → z.cell? ⟨b1, o1 + k * 6 + 3, none⟩ = some (.int .i64 (dcd x 2)) := fun z h => (h.cell (p := ⟨b1, _, none⟩) hl1').trans y3
          have r4 : ∀ z, Below wr.heap.size wr z → z.cell? ⟨b1, o1 + k * 6 + 4, none⟩ = some (.int .i64 (dcd x 3)) := fun z h => (h.cell (p := ⟨b1, _, none⟩) hl1').trans y4
          have r5 : ∀ z, Below wr.heap.size wr z → z.cell? ⟨b1, o1 + k * 6 + 5, none⟩ = some (.int .i64 (dcd x 4)) := fun z h => (h.cell (p := ⟨b1, _, none⟩) hl1').trans y5
          have q0 : ∀ z, Below wr.heap.size wr z → z.cell? ⟨b1, o1 + m * 6, none⟩ = some (.int .i64 p) := fun z h => (h.cell (p := ⟨b1, _, none⟩) hl1').trans (by rw [eb1, eb2]; exact t0)
          have q1 : ∀ z, Below wr.heap.size wr z → z.cell? ⟨b1, o1 + m * 6 + 1, none⟩ = some (.int .i64 (dcd t 0)) := fun z h => (h.cell (p := ⟨b1, _, none⟩) hl1').trans (by rw [eb1, eb2]; exact t1)
          have q2 : ∀ z, Below wr.heap.size wr z → z.cell? ⟨b1, o1 + m * 6 + 2, none⟩ = some (.int .i64 (dcd t 1)) := fun z h => (h.cell (p := ⟨b1, _, none⟩) hl1').trans (by rw [eb1, eb2]; exact t2)
          have q3 : ∀ z, Below wr.heap.size wr z → z.cell? ⟨b1, o1 + m * 6 + 3, none⟩ = some (.int .i64 (dcd t 2)) := fun z h => (h.cell (p := ⟨b1, _, none⟩) hl1').trans (by rw [eb1, eb2]; exact t3)
          have q4 : ∀ z, Below wr.heap.size wr z → z.cell? ⟨b1, o1 + m * 6 + 4, none⟩ = some (.int .i64 (dcd t 3)) := fun z h => (h.cell (p := ⟨b1, _, none⟩) hl1').trans (by rw [eb1, eb2]; exact t4)
          have q5 : ∀ z, Below wr.heap.size wr z → z.cell? ⟨b1, o1 + m * 6 + 5, none⟩ = some (.int .i64 (dcd t 4)) := fun z h => (h.cell (p := ⟨b1, _, none⟩) hl1').trans (by rw [eb1, eb2]; exact t5)
          clear y0 y1 y2 y3 y4 y5 t0 t1 t2 t3 t4 t5 eb1 eb2
          cases r with
          | true =>
            have hq1 := fun w => times_any p (dcd t) (dcd x) HT.out.2 HV.out.2 w
            have heq := runEqM p (mul p (dcd t) (dcd x)) p (dcd x)
            have hcb : eqB p (mul p (dcd t) (dcd x)) p (dcd x) = CB := HCB.out.symm
            rw [hcb] at heq
            clear hcb
            generalize mul p (dcd t) (dcd x) = m1 at *
            simp only [mv, mcells] at hq1 heq
            have HQ1 := Lib.hid hq1
            clear hq1
            go_upto_region 10 with fail
            go_region_held3 (fun w' => Below wr.heap.size wr w') (first | (with_reducible assumption) | ((repeat' (first | (with_reducible exact Below.refl _ _) | (with_reducible refine Below.alloc ?_ ?_ _) | (with_reducible refine Below.setCell ?_ ?_ _) | (with_reducible refine Below.drew ?_) | (with_reducible refine below_drewN ?_ _) | (with_reducible refine Below.trans ?_ (Below.mono (Hid.out (by assumption)) ?_)) | omega | (simp; done) | (simp; omega))); done)) (first | (go_at_call 75; (with_reducible refine (HQ1.out _).mono ?_); rintro e w1 ⟨rfl, hb⟩; skip; obtain ⟨hc, hf⟩ := bcell hb; have hz := hb.size; have Hb := Lib.hid hb; (try simp at hz hc hf); (try (have hy := Nat.lt_of_succ_le hz)); have hz0 : wr.heap.size ≤ w1.heap.size := (by omega); (try (have hz1 : wr.heap.size < w1.heap.size := (by omega))); clear hb))
            all_goals
              go_wp2_with fail
              go_roundw
              case rel => exact ⟨m + 1, by omega, by go_num, by rw [HCS.out]; rfl, HB2.out.trans (Below.mono (by (repeat' (first | (with_reducible exact Below.refl _ _) | (with_reducible refine Below.alloc ?_ ?_ _) | (with_reducible refine Below.setCell ?_ ?_ _) | (with_reducible refine Below.drew ?_) | (with_reducible refine below_drewN ?_ _) | (with_reducible refine Below.trans ?_ (Below.mono (Hid.out (by assumption)) ?_)) | omega | (simp; done) | (simp; omega)))) hs2)⟩
              case measure => simp [intOf]; omega
          | false =>
            have hq1 := fun w => times_any p (dcd x) (dcd t) HV.out.2 HT.out.2 w
            have heq := runEqM p (mul p (dcd x) (dcd t)) p (dcd x)
            have hcb : eqB p (mul p (dcd x) (dcd t)) p (dcd x) = CB := HCB.out.symm
            rw [hcb] at heq
            clear hcb
            generalize mul p (dcd x) (dcd t) = m1 at *
            simp only [mv, mcells] at hq1 heq
            have HQ1 := Lib.hid hq1
            clear hq1
            go_upto_region 11 with fail
            go_region_held3 (fun w' => Below wr.heap.size wr w') (first | (with_reducible assumption) | ((repeat' (first | (with_reducible exact Below.refl _ _) | (with_reducible refine Below.alloc ?_ ?_ _) | (with_reducible refine Below.setCell ?_ ?_ _) | (with_reducible refine Below.drew ?_) | (with_reducible refine below_drewN ?_ _) | (with_reducible refine Below.trans ?_ (Below.mono (Hid.out (by assumption)) ?_)) | omega | (simp; done) | (simp; omega))); done)) (first | (go_at_call 75; (with_reducible refine (HQ1.out _).mono ?_); rintro e w1 ⟨rfl, hb⟩; skip; obtain ⟨hc, hf⟩ := bcell hb; have hz := hb.size; have Hb := Lib.hid hb; (try simp at hz hc hf); (try (have hy := Nat.lt_of_succ_le hz)); have hz0 : wr.heap.size ≤ w1.heap.size := (by omega); (try (have hz1 : wr.heap.size < w1.heap.size := (by omega))); clear hb))
            all_goals
              go_wp2_with fail
              go_roundw
              case rel => exact ⟨m + 1, by omega, by go_num, by rw [HCS.out]; rfl, HB2.out.trans (Below.mono (by (repeat' (first | (with_reducible exact Below.refl _ _) | (with_reducible refine Below.alloc ?_ ?_ _) | (with_reducible refine Below.setCell ?_ ?_ _) | (with_reducible refine Below.drew ?_) | (with_reducible refine below_drewN ?_ _) | (with_reducible refine Below.trans ?_ (Below.mono (Hid.out (by assumption)) ?_)) | omega | (simp; done) | (simp; omega)))) hs2)⟩
              case measure => simp [intOf]; omega
        · have hcx : ∃ B, zsA p r K x = B := ⟨_, rfl⟩
          obtain ⟨B, hB⟩ := hcx
          have hcur : zsA p r (K.take m) x = B := HDONE.out B hB (by
            by_cases h : m < K.length
            · right
              have : ¬ zsA p r (K.take m) x = true := fun e => hgo ⟨h, e⟩
              simpa using this
            · left; omega)
          have HBB := Lib.hid hB
          have hout : (¬ (m : Int) < (K.length : Int)) ∨ B = false := by
            by_cases h : m < K.length
            · right
              have : ¬ zsA p r (K.take m) x = true := fun e => hgo ⟨h, e⟩
              rw [hcur] at this
              simpa using this
            · left; omega
          rw [hcur]
          clear hcur hgo hB HDONE
          cases B with
          | true =>
            have hml : ¬ (m : Int) < (K.length : Int) := hout.resolve_right (by decide)
            clear hout
            go_wp2_with (at_builtin; refine wpList_appM rfl _ _ rfl w.heap.size _ (mE p MM) rfl (ownM_bel HO3.out ((Below.refl _ _).alloc (Nat.le_refl _) _)) (some ⟨wr.heap.size, 0, none⟩) 1 [(p, dcd x)] (fun e => by cases e) rfl (Or.inr ⟨_, 0, rfl, by simp, at_one (halloc_at _ _ _ rfl)⟩) (by rw [mE_len]; simp; omega) (by simp; omega) ?_; intro v4 w4 hown4 hgrow4; have HO4 := Lib.hid hown4; have HB5 := Lib.hid (HB4.out.grown hgrow4 HB4.out.size (fun q e => (HO3.out.lt q e).1)); clear hown4 hgrow4)
            go_roundw
            case rel => exact ⟨k + 1, by omega, by go_num, HB5.out, by rw [HFS.out, if_pos HBB.out, mE_app]; exact HO4.out⟩
            case measure => simp [intOf]; omega
          | false =>
            clear hout
            by_cases hml : (m : Int) < (K.length : Int)
            · go_wp2_with fail
              go_roundw
              case rel => exact ⟨k + 1, by omega, by go_num, HB3.out, by rw [HFS.out, if_neg (by rw [HBB.out]; decide), List.append_nil]; exact HO3.out⟩
              case measure => simp [intOf]; omega
            · go_wp2_with fail
              go_roundw
              case rel => exact ⟨k + 1, by omega, by go_num, HB3.out, by rw [HFS.out, if_neg (by rw [HBB.out]; decide), List.append_nil]; exact HO3.out⟩
              case measure => simp [intOf]; omega
    · obtain rfl : k = K.length := by omega
      have hfl := filt_le (fun c => zsA p r K c) K K.length
      rw [List.take_length] at HOW hfl
      obtain ⟨a2', cap2, rfl, hr2⟩ := ownM_rd HOW.out (by rw [mE_len]; omega)
      have HR2 := Lib.hid hr2
      clear hr2
      rw [mE_len]
      go_wp2_with fail
      go_ret
      exact ⟨a2', cap2, rfl, HR2.out, HBR.out⟩

end Go.Proofs.Ytpkapgidpgmdoaa
