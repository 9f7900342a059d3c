/- The contract of spec.l01Index. -/
import Derived.Test.YthblbamiammodaaConc
import Derived.Test.YthblbamiammodaaPowx
import Derived.Test.YthblbamiammodaaPow
import Derived.Deep.RegionHeld3
import Derived.Deep.DeepCutAuto
namespace Go.Proofs.Ythblbamiammodaa
open Go.RowKit

/-- The first n powers. -/
def pwL (p : Int) (f : Nat → Int) (n : Nat) : List MapN := (List.range n).map fun k => (p, pow p f k)

theorem pwL_len (p : Int) (f : Nat → Int) (n : Nat) : (pwL p f n).length = n := by simp [pwL]
theorem pwL_succ (p : Int) (f : Nat → Int) (n : Nat) : pwL p f (n + 1) = pwL p f n ++ [(p, pow p f n)] := by simp [pwL, List.range_succ]
theorem pwL_at (p : Int) (f : Nat → Int) (n k : Nat) (h : k < n) : (pwL p f n).getD k z0 = (p, pow p f k) := by simp [pwL, h]

/-- No two of the first n powers are alike. -/
def NoRep (p : Int) (f : Nat → Int) (n : Nat) : Prop := ∀ a b, a < b → b < n → pow p f a ≠ pow p f b

theorem norep_le {p : Int} {f : Nat → Int} (hf : isB p f = true) {n : Nat} (h : NoRep p f n) : n ≤ 120 := by
  by_cases c : n ≤ 120
  · exact c
  · exact absurd (pow_120 hf).symm (h 60 120 (by omega) (by omega))

theorem OwnM.at6 {w : World} {B : Nat} {v : Value} {L : List MapN} (h : OwnM w B v L) (hL : L.length ≤ 2000000) : ∃ a cap, v = .slice a L.length cap ∧ ∀ k, k < L.length → ∃ g, a = some ⟨g, 0, none⟩ ∧ B ≤ g ∧ g < w.heap.size ∧
    w.cell? ⟨g, k * 6, none⟩ = some (.int .i64 (L.getD k z0).1) ∧ w.cell? ⟨g, k * 6 + 1, none⟩ = some (.int .i64 ((L.getD k z0).2 0)) ∧ w.cell? ⟨g, k * 6 + 2, none⟩ = some (.int .i64 ((L.getD k z0).2 1)) ∧
      w.cell? ⟨g, k * 6 + 3, none⟩ = some (.int .i64 ((L.getD k z0).2 2)) ∧ w.cell? ⟨g, k * 6 + 4, none⟩ = some (.int .i64 ((L.getD k z0).2 3)) ∧ w.cell? ⟨g, k * 6 + 5, none⟩ = some (.int .i64 ((L.getD k z0).2 4)) := by
  obtain ⟨a, cap, e, hr⟩ := ownM_rd h hL
  refine ⟨a, cap, e, fun k hk => ?_⟩
  obtain ⟨g, ha, hB, hg, hc, _⟩ := hr.2.resolve_left (fun e => by rw [e] at hk; simp at hk)
  have := hc k hk
  unfold AtM at this
  rw [Nat.zero_add] at this
  exact ⟨g, ha, hB, hg, this⟩

theorem halloc_lt' {w : World} {n : Nat} {o : Obj} (h : w.heap[n]? = some o) : n < w.heap.size := (Array.getElem?_eq_some_iff.1 h).1

theorem ownM_below {w w' : World} {B : Nat} {v : Value} {L : List MapN} (h : OwnM w B v L) (hb : Below w.heap.size w w') : OwnM w' B v L := by
  unfold OwnM at *
  exact h.kept (row := none) ⟨hb.os, hb.tape, hb.output, hb.size, fun j hj _ => hb.block j hj⟩ (by cases hv : v.ownBlock <;> simp)

set_option maxRecDepth 100000 in
set_option maxHeartbeats 2000000 in
theorem sidx_any (p : Int) (f : Nat → Int) (hf : isB p f = true) (i j : Nat) (hR : Rep p f i j) (w : World) :
    Calls Try.prog 44 #[mv p f] w fun e w' => e = .returned (.tuple #[.int .i64 i, .int .i64 ((j : Int) - (i : Int))]) ∧ Below w.heap.size w w' := by
  obtain ⟨h1, h5⟩ := isB_pts hf
  have HID := Lib.hid fun w => sid_any p h1 h5 w
  have HT := Lib.hid fun k w => times_any p (pow p f k) f (pow_ok hf k) hf w
  have HR := Lib.hid hR
  have HF := Lib.hid hf
  have HPS := Lib.hid fun k => pow_succ p f k
  clear hR hf
  obtain ⟨i0, hi, hz0', hz1', hz2'⟩ := info_parts info_map
  simp only [mv, mcells] at *
  go_enter Try.func44, Try.ntmps44
  go_wp2_with fail
  (refine (HID.out _).mono ?_; rintro e w1 ⟨rfl, hb⟩; obtain ⟨hc, hf⟩ := bcell hb; have hz := hb.size; have Hb := Lib.hid hb; (try simp at hz hc hf); (try (have hy := Nat.lt_of_succ_le hz)); have hz0 : w.heap.size < w1.heap.size := (by omega); clear hb)
  obtain ⟨wo, hwo⟩ : ∃ wo, wo = w1 := ⟨_, rfl⟩
  subst hwo
  have hwo1 : w.heap.size < wo.heap.size := by omega
  have HBO := Lib.hid Hb.out
  go_wp2_with fail
  go_loopw [4, 5, 6] (fun v _ _ wr => ∃ m : Nat, NoRep p f (m + 1) ∧ OwnM wr (w.heap.size + 1) v (pwL p f (m + 1)) ∧ Below (w.heap.size + 1) (w.alloc (.cells (mcells p f) 26)) wr) (fun v _ _ _ => 121 - (match v with | .slice _ n _ => n | _ => 0))
  case atStart =>
    refine ⟨0, fun a b h1 h2 => by omega, ?_, (by simpa using HBO.out : Below (w.heap.size + 1) _ _).alloc (by omega) _⟩
    exact ⟨rfl, Or.inr ⟨wo.heap.size, 1, mcells p (idn p), rfl, by omega, halloc_at _ _ _ rfl, Nat.le_refl _, by unfold maxLen; omega, rfl, rfl⟩⟩
  case round =>
    clear hc hf hz hz0 hy Hb
    obtain ⟨m, hno, hown, hb⟩ := hrel
    have hm := norep_le HF.out hno
    have hbx : ∀ i, wr.cell? ⟨w.heap.size, i, none⟩ = (mcells p f)[i]? := fun i => new_cell hb (Nat.lt_succ_self _) i
    have f0 := hbx 0
    have f1 := hbx 1
    have f2 := hbx 2
    have f3 := hbx 3
    have f4 := hbx 4
    have f5 := hbx 5
    simp only [mcells, List.getElem?_toArray, List.getElem?_cons_zero, List.getElem?_cons_succ] at f0 f1 f2 f3 f4 f5
    obtain ⟨a, cap, rfl, hcl⟩ := hown.at6 (by rw [pwL_len]; omega)
    have HOWN := Lib.hid hown
    have HNO := Lib.hid hno
    have HB := Lib.hid hb
    have hsz := hb.size
    simp at hsz
    rw [pwL_len] at hcl
    obtain ⟨g, rfl, hgB, hgl, hcm⟩ := hcl m (by omega)
    have HCL : Hid (∀ k, k < m + 1 → wr.cell? ⟨g, k * 6, none⟩ = some (.int .i64 p) ∧ wr.cell? ⟨g, k * 6 + 1, none⟩ = some (.int .i64 (pow p f k 0)) ∧ wr.cell? ⟨g, k * 6 + 2, none⟩ = some (.int .i64 (pow p f k 1)) ∧
        wr.cell? ⟨g, k * 6 + 3, none⟩ = some (.int .i64 (pow p f k 2)) ∧ wr.cell? ⟨g, k * 6 + 4, none⟩ = some (.int .i64 (pow p f k 3)) ∧ wr.cell? ⟨g, k * 6 + 5, none⟩ = some (.int .i64 (pow p f k 4))) := Lib.hid fun k hk => by
      obtain ⟨g', e, _, _, h⟩ := hcl k hk
      cases e
      rw [pwL_at p f _ k hk] at h
      exact h
    clear hown hno hb hbx hcl hcm
    rw [pwL_len]
    obtain ⟨x0, x1, x2, x3, x4, x5⟩ := HCL.out m (by omega)
    have HTM := Lib.hid fun w => HT.out m w
    have HPM := Lib.hid (HPS.out m)
    rw [← HPM.out] at HTM
    have HTM := Lib.hid HTM.out
    generalize hPM : pow p f m = PM at *
    have HPMH := Lib.hid hPM
    clear hPM
    have hfl : w.heap.size < wr.heap.size := by omega
    have r0 : ∀ x, Below wr.heap.size wr x → x.cell? ⟨g, m * 6, none⟩ = some (.int .i64 p) := fun x h => (h.cell (p := ⟨g, _, none⟩) hgl).trans x0
    have r1 : ∀ x, Below wr.heap.size wr x → x.cell? ⟨g, m * 6 + 1, none⟩ = some (.int .i64 (PM 0)) := fun x h => (h.cell (p := ⟨g, _, none⟩) hgl).trans x1
    have r2 : ∀ x, Below wr.heap.size wr x → x.cell? ⟨g, m * 6 + 2, none⟩ = some (.int .i64 (PM 1)) := fun x h => (h.cell (p := ⟨g, _, none⟩) hgl).trans x2
    have r3 : ∀ x, Below wr.heap.size wr x → x.cell? ⟨g, m * 6 + 3, none⟩ = some (.int .i64 (PM 2)) := fun x h => (h.cell (p := ⟨g, _, none⟩) hgl).trans x3
    have r4 : ∀ x, Below wr.heap.size wr x → x.cell? ⟨g, m * 6 + 4, none⟩ = some (.int .i64 (PM 3)) := fun x h => (h.cell (p := ⟨g, _, none⟩) hgl).trans x4
    have r5 : ∀ x, Below wr.heap.size wr x → x.cell? ⟨g, m * 6 + 5, none⟩ = some (.int .i64 (PM 4)) := fun x h => (h.cell (p := ⟨g, _, none⟩) hgl).trans x5
    have q0 : ∀ x, Below wr.heap.size wr x → x.cell? ⟨w.heap.size, 0, none⟩ = some (.int .i64 p) := fun x h => (h.cell (p := ⟨w.heap.size, _, none⟩) hfl).trans f0
    have q1 : ∀ x, Below wr.heap.size wr x → x.cell? ⟨w.heap.size, 1, none⟩ = some (.int .i64 (f 0)) := fun x h => (h.cell (p := ⟨w.heap.size, _, none⟩) hfl).trans f1
    have q2 : ∀ x, Below wr.heap.size wr x → x.cell? ⟨w.heap.size, 2, none⟩ = some (.int .i64 (f 1)) := fun x h => (h.cell (p := ⟨w.heap.size, _, none⟩) hfl).trans f2
    have q3 : ∀ x, Below wr.heap.size wr x → x.cell? ⟨w.heap.size, 3, none⟩ = some (.int .i64 (f 2)) := fun x h => (h.cell (p := ⟨w.heap.size, _, none⟩) hfl).trans f3
    have q4 : ∀ x, Below wr.heap.size wr x → x.cell? ⟨w.heap.size, 4, none⟩ = some (.int .i64 (f 3)) := fun x h => (h.cell (p := ⟨w.heap.size, _, none⟩) hfl).trans f4
    have q5 : ∀ x, Below wr.heap.size wr x → x.cell? ⟨w.heap.size, 5, none⟩ = some (.int .i64 (f 4)) := fun x h => (h.cell (p := ⟨w.heap.size, _, none⟩) hfl).trans f5
    have hm0 : (0 : Int) ≤ (m : Int) := by omega
    have hmn : m < m + 1 := by omega
    generalize hOW : pow p f (m + 1) = OW at *
    have HOW := Lib.hid hOW
    clear hOW
    obtain ⟨N, hN⟩ : ∃ N, N = m + 1 := ⟨_, rfl⟩
    have HNN := Lib.hid hN
    have hsub : IntKind.i64.wrap ((N : Int) - 1) = (m : Int) := by rw [show (N : Int) - 1 = (m : Int) by omega]; exact IntWalk.i64_in _ (by omega)
    have hmm : (m : Int) < (N : Int) := by omega
    have hmn2 : m < N := by omega
    rw [← hN] at hm HCL HOWN HNO HOW ⊢
    clear hN hmn
    clear x0 x1 x2 x3 x4 x5 f0 f1 f2 f3 f4 f5
    go_upto_region 2 with fail
    go_cut [5] (fun s5 wx => ∃ B5 : Nat, s5 = .pointer (some ⟨B5, 0, none⟩) ∧ Below wr.heap.size wr wx ∧ wr.heap.size ≤ B5 ∧ B5 < wx.heap.size ∧ wx.heap[B5]? = some (.cells (mcells p OW) 26 (0, 0)))
    case first =>
      go_region_held3 (fun w' => Below wr.heap.size wr w') (first | (with_reducible assumption) | ((repeat' (first | (with_reducible exact Below.refl _ _) | (with_reducible refine Below.alloc ?_ ?_ _) | (with_reducible refine Below.setCell ?_ ?_ _) | (with_reducible refine Below.drew ?_) | (with_reducible refine below_drewN ?_ _) | (with_reducible refine Below.trans ?_ (Below.mono (Hid.out (by assumption)) ?_)) | omega | (simp; done) | (simp; omega))); done)) (first | (go_at_call 68; (with_reducible refine (HTM.out _).mono ?_); rintro e w1 ⟨rfl, hb⟩; skip; obtain ⟨hc, hf⟩ := bcell hb; have hz := hb.size; have Hb := Lib.hid hb; (try simp at hz hc hf); (try (have hy := Nat.lt_of_succ_le hz)); have hz0 : wr.heap.size ≤ w1.heap.size := (by omega); (try (have hz1 : wr.heap.size < w1.heap.size := (by omega))); clear hb))
      all_goals (go_wp2_with fail)
      all_goals (go_meet)
      all_goals
        refine ⟨_, rfl, ?_, ?_, ?_, ?_⟩
        · (repeat' (first | (with_reducible exact Below.refl _ _) | (with_reducible refine Below.alloc ?_ ?_ _) | (with_reducible refine Below.setCell ?_ ?_ _) | (with_reducible refine Below.drew ?_) | (with_reducible refine below_drewN ?_ _) | (with_reducible refine Below.trans ?_ (Below.mono (Hid.out (by assumption)) ?_)) | omega | (simp; done) | (simp; omega)))
        · first | omega | (simp; done) | (simp; omega)
        · first | omega | (simp; done) | (simp; omega)
        · clear r0 r1 r2 r3 r4 r5 q0 q1 q2 q3 q4 q5
          (repeat' (first | omega | (rw [hdrew]) | (with_reducible assumption) | (with_reducible exact Hid.out (by assumption)) | (with_reducible rfl) | ((with_reducible refine halloc_at _ _ _ ?_) <;> (first | (with_reducible rfl) | omega | (simp; done))) | (with_reducible refine chain6 ?_) | (with_reducible refine Eq.trans (hset_ne _ _ _ _ ?_) ?_) | (with_reducible refine Eq.trans (halloc_lt _ _ _ ?_) ?_) | (with_reducible refine Eq.trans (Below.block (Hid.out (by assumption)) _ ?_) ?_) | (simp; done) | (simp; omega)))
    case rest =>
      clear r0 r1 r2 r3 r4 r5 q0 q1 q2 q3 q4 q5 hsub hm0 hmm hmn2
      obtain ⟨B5, rfl, hbc, hB1, hB2, hbk⟩ := hcut
      have HBC := Lib.hid hbc
      have HBK := Lib.hid hbk
      have HROW : Hid (∀ k, k < N → wc.cell? ⟨g, k * 6, none⟩ = some (.int .i64 p) ∧ wc.cell? ⟨g, k * 6 + 1, none⟩ = some (.int .i64 (pow p f k 0)) ∧ wc.cell? ⟨g, k * 6 + 2, none⟩ = some (.int .i64 (pow p f k 1)) ∧
          wc.cell? ⟨g, k * 6 + 3, none⟩ = some (.int .i64 (pow p f k 2)) ∧ wc.cell? ⟨g, k * 6 + 4, none⟩ = some (.int .i64 (pow p f k 3)) ∧ wc.cell? ⟨g, k * 6 + 5, none⟩ = some (.int .i64 (pow p f k 4))) := Lib.hid fun k hk => by
        have h := HCL.out k hk
        rw [← hbc.cell (p := ⟨g, _, none⟩) hgl, ← hbc.cell (p := ⟨g, _, none⟩) hgl, ← hbc.cell (p := ⟨g, _, none⟩) hgl, ← hbc.cell (p := ⟨g, _, none⟩) hgl, ← hbc.cell (p := ⟨g, _, none⟩) hgl, ← hbc.cell (p := ⟨g, _, none⟩) hgl] at h
        exact h
      have hszc := hbc.size
      have hN9 : N ≤ 120 := hm
      clear hbc hbk HTM HPMH HPM
      go_wp2_with fail
      go_loopw [6] (fun z wq => ∃ (k nn : Nat), k ≤ N ∧ z = .int .i64 k ∧ (∀ b, b < k → pow p f b ≠ OW) ∧ wq = wc.drewN nn) (fun z _ => N - (intOf z).toNat)
      case atStart => exact ⟨0, 0, by omega, rfl, by omega, rfl⟩
      case round =>
        obtain ⟨k, nn, hk, rfl, hne, rfl⟩ := hrel
        have HNE := Lib.hid hne
        clear hne
        by_cases hkN : k < N
        · have hkN' : (k : Int) < (N : Int) := by omega
          obtain ⟨x0, x1, x2, x3, x4, x5⟩ := HROW.out k hkN
          obtain ⟨y0, y1, y2, y3, y4, y5⟩ := blk6 HBK.out
          have hq := fun w => runEqM p (pow p f k) p OW w
          have HEQ : Hid (eqB p (pow p f k) p OW = true → pow p f k = OW) := Lib.hid fun e => by
            rw [← HOW.out] at e ⊢
            exact eq_pow HF.out e
          have HEQ2 : Hid (pow p f k = OW → eqB p (pow p f k) p OW = true) := Lib.hid fun e => by rw [e]; exact eqB_refl _ _
          have HKO : Hid (pow p f k = OW → k = i ∧ N = j) := Lib.hid fun e => rep_one ⟨hkN, hN9, e.trans HOW.out.symm, HNO.out⟩ HR.out
          generalize hPK : pow p f k = PK at *
          have HPK := Lib.hid hPK
          clear hPK
          cases he : eqB p PK p OW
          · have HNK : Hid (PK ≠ OW) := Lib.hid fun e => by have := HEQ2.out e; rw [he] at this; cases this
            simp only [he] at hq
            clear he
            go_wp2_with fail
            go_quiet (fail)
            go_wp2_with fail
            go_roundw
            case rel => exact ⟨k + 1, nn + nq, by omega, by go_num, fun b hb => by
              by_cases e : b = k
              · rw [e, HPK.out]; exact HNK.out
              · exact HNE.out b (by omega), rfl⟩
            case measure => simp [intOf] <;> omega
          · have HKK := Lib.hid (HKO.out (HEQ.out he))
            simp only [he] at hq
            clear he
            go_wp2_with fail
            go_quiet (fail)
            go_wp2_with fail
            go_ret2
            refine ⟨?_, ?_⟩
            · obtain ⟨e1, e2⟩ := HKK.out
              rw [e1, e2]
              rfl
            · exact below_drewN ((bel_new HB.out (by omega)).trans (HBC.out.mono (by omega))) _
        · obtain rfl : k = N := by omega
          obtain ⟨y0, y1, y2, y3, y4, y5⟩ := blk6 HBK.out
          have HNR : Hid (NoRep p f (k + 1)) := Lib.hid fun a b h1 h2 e => by
            by_cases c : b = k
            · subst c
              exact HNE.out a h1 (e.trans HOW.out)
            · exact HNO.out a b h1 (by omega) e
          have HBX : Hid (Below wr.heap.size wr ((wc.drewN nn).alloc (.cells (mcells p OW) 26))) := Lib.hid ((below_drewN HBC.out nn).alloc (show wr.heap.size ≤ wc.heap.size from hszc) _)
          have HOX : Hid (OwnM ((wc.drewN nn).alloc (.cells (mcells p OW) 26)) (w.heap.size + 1) (.slice (some ⟨g, 0, none⟩) k cap) (pwL p f k)) := Lib.hid (by
            have h : OwnM _ _ _ _ := HOWN.out
            rw [pwL_len] at h
            exact ownM_below h HBX.out)
          have HIX : Hid (InRowM ((wc.drewN nn).alloc (.cells (mcells p OW) 26)) (some ⟨wc.heap.size, 0, none⟩) [(p, OW)]) := Lib.hid (Or.inr ⟨_, _, rfl, halloc_lt' (halloc_at _ _ _ rfl), fun j hj => by
            obtain rfl : j = 0 := by simpa using hj
            exact blk6 (halloc_at _ _ _ rfl)⟩)
          go_wp2_with (at_builtin; refine wpList_appM rfl _ _ rfl (w.heap.size + 1) _ (pwL p f k) rfl HOX.out _ _ [(p, OW)] (fun e => by cases e) rfl HIX.out (by rw [pwL_len]; simp; omega) (Nat.le_trans (by omega : w.heap.size + 1 ≤ wr.heap.size) HBX.out.size) ?_; intro v1 w2 hown1 hgrow1; have HO1 := Lib.hid hown1; have HB2 := Lib.hid ((HB.out.trans (HBX.out.mono (by omega))).grown hgrow1 (Nat.le_trans (by omega : w.heap.size + 1 ≤ wr.heap.size) HBX.out.size) (fun q e => (HOX.out.lt q e).1)); clear hown1 hgrow1)
          go_roundw
          case rel =>
            refine ⟨k, HNR.out, ?_, HB2.out⟩
            rw [pwL_succ, HOW.out]
            exact HO1.out
          case measure =>
            obtain ⟨a, cap', e, _⟩ := ownM_rd HO1.out (by rw [List.length_append, pwL_len]; simp; omega)
            rw [e, List.length_append, pwL_len]
            simp
            omega

end Go.Proofs.Ythblbamiammodaa
