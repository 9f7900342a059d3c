/- The contract of spec.l01Put by numbers. -/
import Derived.Test.YtiogagaclhjdaaaNum
import Derived.Test.YtiogagaclhjdaaaConc
import Derived.Test.YtiogagaclhjdaaaTurn
import Derived.Test.YtiogagaclhjdaaaOwn
import Derived.Maps.AppendAt
import Derived.Deep.RegionLaw
import Derived.Deep.Onto
import Derived.Deep.RegionHeld3
namespace Go.Proofs.Ytiogagaclhjdaaa
open Go.RowKit

/-- A list of maps in a row of block g. -/
structure PutRow (w : World) (B g cap : Nat) (L : List MapN) : Prop where
  le : L.length ≤ cap
  mx : cap ≤ maxLen
  lo : B ≤ g
  hi : g < w.heap.size
  cells : ∀ j, j < L.length → AtM w g 0 j (L.getD j z0)
  ty : ∃ cur, w.heap[g]? = some (.cells cur 31 (0, 0))

theorem PutRow.inRow {w : World} {B g cap : Nat} {L : List MapN} (h : PutRow w B g cap L) : InRowM w (some ⟨g, 0, none⟩) L := Or.inr ⟨g, 0, rfl, h.hi, h.cells⟩

theorem PutRow.below {w w' : World} {B g cap : Nat} {L : List MapN} (h : PutRow w B g cap L) (hb : Below w.heap.size w w') : PutRow w' B g cap L :=
  ⟨h.le, h.mx, h.lo, Nat.lt_of_lt_of_le h.hi hb.size, fun j hj => (h.cells j hj).block (hb.block g h.hi), by
    obtain ⟨cur, hc⟩ := h.ty
    exact ⟨cur, (hb.block g h.hi).trans hc⟩⟩

theorem PutRow.block {w w' : World} {B g cap : Nat} {L : List MapN} (h : PutRow w B g cap L) (e : w'.heap[g]? = w.heap[g]?) : PutRow w' B g cap L :=
  ⟨h.le, h.mx, h.lo, by
    have := h.hi
    have e2 : w'.heap[g]? = some w.heap[g] := e.trans (Array.getElem?_eq_getElem this)
    exact (Array.getElem?_eq_some_iff.1 e2).1, fun j hj => (h.cells j hj).block e, by
    obtain ⟨cur, hc⟩ := h.ty
    exact ⟨cur, e.trans hc⟩⟩

theorem PutRow.mono {w : World} {B B' g cap : Nat} {L : List MapN} (h : PutRow w B g cap L) (hB : B' ≤ B) : PutRow w B' g cap L := ⟨h.le, h.mx, Nat.le_trans hB h.lo, h.hi, h.cells, h.ty⟩

/-- The call returns a list of maps that lies from block B on. -/
def RetPut (B : Nat) (L : List MapN) (w : World) (e : Ending) (w' : World) : Prop := ∃ g cap, e = .returned (.slice (some ⟨g, 0, none⟩) L.length cap) ∧ PutRow w' B g cap L ∧ Below w.heap.size w w'

theorem ownM_put {w : World} {B : Nat} {v : Value} {L : List MapN} (h : OwnM w B v L) (hL : L.length ≤ 2000000) (h0 : L ≠ []) : ∃ g cap, v = .slice (some ⟨g, 0, none⟩) L.length cap ∧ PutRow w B g cap L := by
  rcases h.2 with ⟨_, h1⟩ | ⟨g, cap, cur, h1, hB, hg, hn, hcap, _⟩
  · exact absurd (List.length_eq_zero_iff.1 h1) h0
  · obtain ⟨a, cap2, e2, hr⟩ := ownM_rd h hL
    obtain ⟨g2, ea, _, hlt, hc, _⟩ := hr.2.resolve_left h0
    subst ea
    rw [e2] at h1
    injection h1 with e3 _ e4
    injection e3 with e3
    injection e3 with e3
    subst e3 e4
    exact ⟨g2, cap2, e2, hn, hcap, hB, hlt, hc, cur, hg⟩

theorem own_emptyM {w : World} {b base : Nat} (h : w.heap[b]? = some (.cells #[] 31 (0, 0))) (hb : base ≤ b) : OwnM w base (.slice (some ⟨b, 0, none⟩) 0 0) [] :=
  ⟨by simp [mcels_nil], Or.inr ⟨b, 0, #[], rfl, hb, h, Nat.le_refl _, Nat.zero_le _, rfl, by simp [mcels_nil]⟩⟩

theorem at_one {w : World} {b T : Nat} {p : Int} {t : Nat → Int} (h : w.heap[b]? = some (.cells (mcells p t) T (0, 0))) : ∀ j, j < [((p, t) : MapN)].length → AtM w b 0 j ([((p, t) : MapN)].getD j z0) := by
  intro j hj
  have : j = 0 := by simpa using hj
  subst this
  obtain ⟨x0, x1, x2, x3, x4, x5⟩ := blk6 h
  exact ⟨x0, x1, x2, x3, x4, x5⟩

/-- append onto a list of maps of the call's own, at a step of a region that draws its order. -/
theorem step_appM {w : World} {ops : Array Oper} {o : Oper} {ac : Act} {K : Act → World → Prop} {Q : Exit → Act → World → Prop} {E : Prop} (hgd : o.guard = none) (s x : Operand)
    (ho : o.op = .call { callee := .builtin .append, args := #[s, x], argTypes := #[29, 29] })
    (base : Nat) (v : Value) (M : List MapN) (hs : ac.eval s = v) (hown : OwnM w base v M)
    (b off c : Nat) (L : List MapN) (hx : ac.eval x = .slice (some ⟨b, off, none⟩) L.length c) (hr : ∀ j, j < L.length → AtM w b off j (L.getD j z0))
    (hlen : M.length + L.length ≤ 2000000) (hbase : base ≤ w.heap.size)
    (h : ∀ v' w', OwnM w' base v' (M ++ L) → w.grownBy w' v.ownBlock → (v'.ownBlock = v.ownBlock ∨ v'.ownBlock = some w.heap.size) → K (ac.put o.dst v') w') :
    if Region.wanted o (yielded ops ac.tmps) = true then Oper.wp Try.prog o ac w K Q else E := by
  obtain ⟨i0, hi, hz0, hz1, hz2⟩ := info_parts info_map
  have hw : Region.wanted o (yielded ops ac.tmps) = true := by simp [Region.wanted, hgd]
  rw [if_pos hw]
  obtain ⟨v', w', hrun, h2, h3, _, h4⟩ := run_append_own_at (P := Try.prog) w base 29 o.type 31 i0 _ 6 48 Try.underlying29 hi hz0 hz1 hz2 rfl (by decide) v M.length (mcels M) hown ⟨b, off, none⟩ L.length c (mcels L) (mcels_len L) (rowM_cells hr) (mcels_one L) (by unfold maxLen; omega) (by omega) hbase
  unfold Oper.wp
  simp [execOp, ho, resolve, invoke, builtin, hs, hx, hrun, Result.andThen]
  refine h v' w' ?_ h3 h4
  unfold OwnM
  rw [mcels_app, List.length_append]
  exact h2

set_option maxRecDepth 100000 in
set_option maxHeartbeats 4000000 in
theorem put_any {p : Int} {K : List Nat} {c : Nat} (hK : ∀ x ∈ K, vld p x) (hs : srtd K) (hc : vld p c) (hn : K.length ≤ 1000) (g cap B B' : Nat) (w : World) (hB1 : c ∈ K → B' ≤ B) (hB : B' ≤ w.heap.size) (hr : PutRow w B g cap (mE p K)) :
    Calls Try.prog 89 #[.slice (some ⟨g, 0, none⟩) K.length cap, mv p (dcd c)] w (RetPut B' (mE p (putN K c)) w) := by
  have HR := Lib.hid hr
  have HK := Lib.hid hK
  have HS := Lib.hid hs
  have HC := Lib.hid hc
  have HF := Lib.hid (low_found hs c)
  have hlow := lowN_le K c
  have HBB := Lib.hid hB1
  clear hr hK hs hc hB1
  simp only [mv, mcells]
  go_enter Try.func89, Try.ntmps89
  go_wp2_with fail
  go_loopw [5, 6, 7] (fun x y _ wr => ∃ lo hi : Nat, lo ≤ lowN K c ∧ lowN K c ≤ hi ∧ hi ≤ K.length ∧ x = .int .i64 lo ∧ y = .int .i64 hi ∧ Below w.heap.size w wr ∧ wr.heap[w.heap.size]? = some (.cells (mcells p (dcd c)) 31 (0, 0))) (fun x y _ _ => (intOf y).toNat - (intOf x).toNat)
  case atStart => exact ⟨0, K.length, by omega, by omega, by omega, rfl, rfl, (Below.refl _ _).alloc (Nat.le_refl _) _, halloc_at _ _ _ rfl⟩
  case round =>
    obtain ⟨lo, hi, h1, h2, h3, rfl, rfl, hb, hbox⟩ := hrel
    have HB := Lib.hid hb
    have HX := Lib.hid hbox
    have hsz := hb.size
    have hbx : w.heap.size < wr.heap.size := (Array.getElem?_eq_some_iff.1 hbox).1
    clear hb hbox
    by_cases hlt : lo < hi
    · have hlt' : (lo : Int) < (hi : Int) := by omega
      obtain ⟨m, hm⟩ : ∃ m : Nat, ((lo : Int) + (hi : Int)) / 2 = (m : Int) := ⟨(lo + hi) / 2, by omega⟩
      have hm1 : lo ≤ m ∧ m < hi := by omega
      have hmk : m < K.length := by omega
      have hmk' : (m : Int) < (K.length : Int) := by omega
      have hat := (HR.out.below HB.out).cells m (by rw [mE_len]; exact hmk)
      rw [mE_at p K m hmk] at hat
      unfold AtM at hat
      rw [Nat.zero_add] at hat
      obtain ⟨x0, x1, x2, x3, x4, x5⟩ := hat
      obtain ⟨y0, y1, y2, y3, y4, y5⟩ := blk6 HX.out
      simp only [] at x0 x1 x2 x3 x4 x5
      have HV := HK.out _ (getD_mem hmk)
      have HLL := low_lt HS.out c m hmk
      have HQ := Lib.hid fun w => less_num HV HC.out w
      simp only [mv, mcells] at HQ
      have HLL := Lib.hid HLL
      clear HV
      generalize K.getD m 0 = x at *
      go_wp2_with fail
      go_still_tail 5, (by kernel_rfl)
      go_wp2_with fail
      refine (HQ.out _).mono ?_
      rintro e w2 ⟨rfl, hb2⟩
      have hbd : Below wr.heap.size wr w2 := ⟨hb2.os, hb2.tape, hb2.output, hb2.size, fun x hx => hb2.block x hx⟩
      have HB2 : Hid (Below w.heap.size w w2) := Lib.hid (HB.out.trans (hbd.mono hsz))
      have HX2 : Hid (w2.heap[w.heap.size]? = some (.cells (mcells p (dcd c)) 31 (0, 0))) := Lib.hid ((hb2.block _ (by simpa using hbx)).trans HX.out)
      clear hb2 hbd
      by_cases hx : x < c
      · have hx2 := HLL.out.1 hx
        go_wp2_with fail
        go_roundw
        case rel => exact ⟨m + 1, hi, by omega, h2, h3, by go_num, rfl, HB2.out, HX2.out⟩
        case measure => simp [intOf]; omega
      · have hx2 : ¬ m < lowN K c := fun h => hx (HLL.out.2 h)
        go_wp2_with fail
        go_roundw
        case rel => exact ⟨lo, m, h1, by omega, by omega, rfl, rfl, HB2.out, HX2.out⟩
        case measure => simp [intOf]; omega
    · have hle : hi = lo := by omega
      subst hle
      have hlo : hi = lowN K c := by omega
      subst hlo
      by_cases hk : lowN K c < K.length
      · have hk' : (lowN K c : Int) < (K.length : Int) := by omega
        have hat := (HR.out.below HB.out).cells _ (by rw [mE_len]; exact hk)
        rw [mE_at p K _ hk] at hat
        unfold AtM at hat
        rw [Nat.zero_add] at hat
        obtain ⟨x0, x1, x2, x3, x4, x5⟩ := hat
        obtain ⟨y0, y1, y2, y3, y4, y5⟩ := blk6 HX.out
        simp only [] at x0 x1 x2 x3 x4 x5
        have HV := HK.out _ (getD_mem hk)
        have hq := fun w => runEqM p (dcd (K.getD (lowN K c) 0)) p (dcd c) w
        simp only [dcd_cells HV HC.out] at hq
        have HFF := HF.out
        clear HV
        generalize K.getD (lowN K c) 0 = x at *
        by_cases hx : x = c
        · have hin : c ∈ K := HFF.2 ⟨hk, hx⟩
          have HIN : Hid (putN K c = K) := Lib.hid (by unfold putN; rw [if_pos hin])
          have HBB1 := HBB.out hin
          rw [decide_eq_true hx] at hq
          clear hin HFF hx
          go_wp2_with fail
          go_quiet (fail)
          go_wp2_with fail
          go_ret
          rw [HIN.out]
          exact ⟨g, cap, by rw [mE_len]; rfl, (HR.out.below (below_drewN HB.out _)).mono HBB1, below_drewN HB.out _⟩
        · have hin : c ∉ K := fun h => hx (HFF.1 h).2
          have HIN : Hid (putN K c = K.take (lowN K c) ++ c :: K.drop (lowN K c)) := Lib.hid (by unfold putN; rw [if_neg hin])
          rw [decide_eq_false hx] at hq
          clear hin HFF hx
          go_wp2_with fail
          go_quiet (fail)
          go_wp2_with fail
          obtain ⟨wq, hwq⟩ : ∃ wq, wq = wr.drewN nq := ⟨_, rfl⟩
          rw [← hwq]
          have HBQ : Hid (Below w.heap.size w wq) := Lib.hid (by rw [hwq]; exact below_drewN HB.out _)
          have HXQ : Hid (wq.heap[w.heap.size]? = some (.cells (mcells p (dcd c)) 31 (0, 0))) := Lib.hid (by rw [hwq]; exact HX.out)
          have HRQ := Lib.hid (HR.out.below HBQ.out)
          have hbxq : w.heap.size < wq.heap.size := (Array.getElem?_eq_some_iff.1 HXQ.out).1
          have hgq := HRQ.out.hi
          have hcap := HRQ.out.le
          rw [mE_len] at hcap
          have hcm := HRQ.out.mx
          clear hwq HX HB HR hsz hbx
          (try clear x0 x1 x2 x3 x4 x5 y0 y1 y2 y3 y4 y5 hq)
          generalize hlo : lowN K c = q at *
          clear hlo
          have hqk : (q : Int) ≤ (K.length : Int) := by omega
          have hqc : (q : Int) ≤ (cap : Int) := by omega
          have hkc : (K.length : Int) ≤ (cap : Int) := by omega
          obtain ⟨y0, y1, y2, y3, y4, y5⟩ := blk6 HXQ.out
          have HT : Hid (∀ x, Below wq.heap.size wq x → ∀ j, j < (mE p (K.take q)).length → AtM x g 0 j ((mE p (K.take q)).getD j z0)) := Lib.hid fun x hx j hj => by
            have hjq : j < q ∧ j < K.length := by rw [mE_len, List.length_take] at hj; omega
            have h := (HRQ.out.below hx).cells j (by rw [mE_len]; exact hjq.2)
            rw [mE_at p K j hjq.2] at h
            rw [mE_at p _ j (by rw [List.length_take]; omega), List.getD_eq_getElem?_getD, List.getElem?_take, if_pos hjq.1, ← List.getD_eq_getElem?_getD]
            exact h
          have hlt : (mE p (K.take q)).length = q := by rw [mE_len, List.length_take]; omega
          go_region_law (first
            | (refine step_appM rfl (.tmp 40) (.tmp 43) rfl wq.heap.size (.slice (some ⟨_, 0, none⟩) 0 0) [] rfl (own_emptyM (by (repeat' (first | omega | (rw [hdrew]) | (with_reducible assumption) | (with_reducible exact Hid.out (by assumption)) | (with_reducible rfl) | ((with_reducible refine halloc_at _ _ _ ?_) <;> (first | (with_reducible rfl) | omega | (simp; done))) | (with_reducible refine chain6 ?_) | (with_reducible refine Eq.trans (hset_ne _ _ _ _ ?_) ?_) | (with_reducible refine Eq.trans (halloc_lt _ _ _ ?_) ?_) | (with_reducible refine Eq.trans (Below.block (Hid.out (by assumption)) _ ?_) ?_) | (simp; done) | (simp; omega)))) (by first | omega | (simp; omega))) g 0 cap (mE p (K.take q)) (by rw [hlt]; rfl) (HT.out _ (by (repeat' (first | (with_reducible exact Below.refl _ _) | (with_reducible refine Below.alloc ?_ ?_ _) | (with_reducible refine Below.setCell ?_ ?_ _) | (with_reducible refine Below.drew ?_) | (with_reducible refine below_drewN ?_ _) | (with_reducible refine Below.trans ?_ (Below.mono (Hid.out (by assumption)) ?_)) | omega | (simp; done) | (simp; omega))))) (by rw [hlt]; simp only [List.length_nil]; omega) (by first | exact Nat.le_refl _ | (simp; done) | (simp; omega)) ?_; intro v1 w1 hown1 hgrow1 hat1; have HO1 := Lib.hid hown1; have HG1 := Lib.hid hgrow1; have HA1 := Lib.hid hat1; have HB1 : Hid (Below wq.heap.size wq w1) := Lib.hid (Below.grown (by (repeat' (first | (with_reducible exact Below.refl _ _) | (with_reducible refine Below.alloc ?_ ?_ _) | (with_reducible refine Below.setCell ?_ ?_ _) | (with_reducible refine Below.drew ?_) | (with_reducible refine below_drewN ?_ _) | (with_reducible refine Below.trans ?_ (Below.mono (Hid.out (by assumption)) ?_)) | omega | (simp; done) | (simp; omega)))) hgrow1 (by first | exact Nat.le_refl _ | (simp; done) | (simp; omega)) (fun r e => by first | (simp [Value.ownBlock] at e; omega) | (simp [Value.ownBlock] at e; subst e; simp))); have hz1 : wq.heap.size ≤ w1.heap.size := HB1.out.size; obtain ⟨z0, z1, z2, z3, z4, z5⟩ := blk6 ((HB1.out.block _ hbxq).trans HXQ.out); clear hown1 hgrow1 hat1)
            | (refine step_appM rfl (.tmp 44) (.tmp 46) rfl wq.heap.size v1 ([] ++ mE p (K.take q)) rfl (by first | exact HO1.out | exact ownM_bel HO1.out (by (repeat' (first | (with_reducible exact Below.refl _ _) | (with_reducible refine Below.alloc ?_ ?_ _) | (with_reducible refine Below.setCell ?_ ?_ _) | (with_reducible refine Below.drew ?_) | (with_reducible refine below_drewN ?_ _) | (with_reducible refine Below.trans ?_ (Below.mono (Hid.out (by assumption)) ?_)) | omega | (simp; done) | (simp; omega))))) _ 0 1 [(p, dcd c)] rfl (at_one (by first | ((repeat' (first | omega | (rw [hdrew]) | (with_reducible assumption) | (with_reducible exact Hid.out (by assumption)) | (with_reducible rfl) | ((with_reducible refine halloc_at _ _ _ ?_) <;> (first | (with_reducible rfl) | omega | (simp; done))) | (with_reducible refine chain6 ?_) | (with_reducible refine Eq.trans (hset_ne _ _ _ _ ?_) ?_) | (with_reducible refine Eq.trans (halloc_lt _ _ _ ?_) ?_) | (with_reducible refine Eq.trans (Below.block (Hid.out (by assumption)) _ ?_) ?_) | (simp; done) | (simp; omega))); done) | ((refine (HG1.out.block _ ?_ ?_).trans ?_) <;> (first | (simp; done) | (simp; omega) | (simp [Value.ownBlock]; done) | (repeat' (first | omega | (rw [hdrew]) | (with_reducible assumption) | (with_reducible exact Hid.out (by assumption)) | (with_reducible rfl) | ((with_reducible refine halloc_at _ _ _ ?_) <;> (first | (with_reducible rfl) | omega | (simp; done))) | (with_reducible refine chain6 ?_) | (with_reducible refine Eq.trans (hset_ne _ _ _ _ ?_) ?_) | (with_reducible refine Eq.trans (halloc_lt _ _ _ ?_) ?_) | (with_reducible refine Eq.trans (Below.block (Hid.out (by assumption)) _ ?_) ?_) | (simp; done) | (simp; omega))))))) (by rw [List.nil_append, hlt]; simp only [List.length_cons, List.length_nil]; omega) (Nat.le_trans HB1.out.size (by first | exact Nat.le_refl _ | (simp; done))) ?_; intro v2 w2 hown2 hgrow2 hat2; have HO2 := Lib.hid hown2; have HB2 : Hid (Below wq.heap.size wq w2) := Lib.hid (Below.grown (by (repeat' (first | (with_reducible exact Below.refl _ _) | (with_reducible refine Below.alloc ?_ ?_ _) | (with_reducible refine Below.setCell ?_ ?_ _) | (with_reducible refine Below.drew ?_) | (with_reducible refine below_drewN ?_ _) | (with_reducible refine Below.trans ?_ (Below.mono (Hid.out (by assumption)) ?_)) | omega | (simp; done) | (simp; omega)))) hgrow2 (Nat.le_trans HB1.out.size (by first | exact Nat.le_refl _ | (simp; done))) (fun r e => (HO1.out.lt r e).1)); clear hown2 hgrow2 hat2))
          all_goals (try clear z0 z1 z2 z3 z4 z5)
          all_goals clear y0 y1 y2 y3 y4 y5
          all_goals
            have hld : (mE p (K.drop q)).length = K.length - q := by rw [mE_len, List.length_drop]
            have HNE : Hid (∀ x, Below wq.heap.size wq x → InRowM x (some ⟨g, q * 6, none⟩) (mE p (K.drop q))) := Lib.hid fun x hx => Or.inr ⟨g, q * 6, rfl, Nat.lt_of_lt_of_le hgq hx.size, fun j hj => by
                have hjq : q + j < K.length := by rw [hld] at hj; omega
                have h := (HRQ.out.below hx).cells (q + j) (by rw [mE_len]; exact hjq)
                rw [mE_at p K _ hjq] at h
                rw [mE_at p _ j (by rw [List.length_drop]; omega), List.getD_eq_getElem?_getD, List.getElem?_drop, ← List.getD_eq_getElem?_getD]
                unfold AtM at h ⊢
                rw [show q * 6 + j * 6 = 0 + (q + j) * 6 by omega]
                exact h⟩
            go_wp2_with (at_builtin; refine wpList_appM rfl _ _ rfl wq.heap.size v2 (([] ++ mE p (K.take q)) ++ [(p, dcd c)]) rfl HO2.out _ _ (mE p (K.drop q)) (fun e => by cases e) (by rw [hld]; rfl) (HNE.out _ HB2.out) (by rw [hld]; simp [hlt]; omega) HB2.out.size ?_; intro v3 w3 hown3 hgrow3; have HO3 := Lib.hid hown3; have HB3 := Lib.hid (HB2.out.grown hgrow3 HB2.out.size (fun r e => (HO2.out.lt r e).1)); clear hown3 hgrow3)
            go_ret
            have hfin : ([] ++ mE p (K.take q)) ++ [(p, dcd c)] ++ mE p (K.drop q) = mE p (putN K c) := by
              rw [HIN.out, mE_app, List.nil_append]
              unfold mE
              simp
            have hO := HO3.out
            rw [hfin] at hO
            obtain ⟨g3, cap3, e3, hP⟩ := ownM_put hO (by rw [← hfin]; simp [hlt, hld]; omega) (by rw [← hfin]; simp)
            exact ⟨g3, cap3, by rw [e3]; rfl, hP.mono (by have := HBQ.out.size; omega), HBQ.out.trans (HB3.out.mono HBQ.out.size)⟩
      · have hin : c ∉ K := fun h => hk (HF.out.1 h).1
        have HIN : Hid (putN K c = K.take (lowN K c) ++ c :: K.drop (lowN K c)) := Lib.hid (by unfold putN; rw [if_neg hin])
        clear hin
        go_wp2_with fail
        go_quiet (fail)
        go_wp2_with fail
        obtain ⟨wq, hwq⟩ : ∃ wq, wq = wr.drewN nq := ⟨_, rfl⟩
        rw [← hwq]
        have HBQ : Hid (Below w.heap.size w wq) := Lib.hid (by rw [hwq]; exact below_drewN HB.out _)
        have HXQ : Hid (wq.heap[w.heap.size]? = some (.cells (mcells p (dcd c)) 31 (0, 0))) := Lib.hid (by rw [hwq]; exact HX.out)
        have HRQ := Lib.hid (HR.out.below HBQ.out)
        have hbxq : w.heap.size < wq.heap.size := (Array.getElem?_eq_some_iff.1 HXQ.out).1
        have hgq := HRQ.out.hi
        have hcap := HRQ.out.le
        rw [mE_len] at hcap
        have hcm := HRQ.out.mx
        clear hwq HX HB HR hsz hbx
        (try clear x0 x1 x2 x3 x4 x5 y0 y1 y2 y3 y4 y5 hq)
        generalize hlo : lowN K c = q at *
        clear hlo
        have hqk : (q : Int) ≤ (K.length : Int) := by omega
        have hqc : (q : Int) ≤ (cap : Int) := by omega
        have hkc : (K.length : Int) ≤ (cap : Int) := by omega
        obtain ⟨y0, y1, y2, y3, y4, y5⟩ := blk6 HXQ.out
        have HT : Hid (∀ x, Below wq.heap.size wq x → ∀ j, j < (mE p (K.take q)).length → AtM x g 0 j ((mE p (K.take q)).getD j z0)) := Lib.hid fun x hx j hj => by
          have hjq : j < q ∧ j < K.length := by rw [mE_len, List.length_take] at hj; omega
          have h := (HRQ.out.below hx).cells j (by rw [mE_len]; exact hjq.2)
          rw [mE_at p K j hjq.2] at h
          rw [mE_at p _ j (by rw [List.length_take]; omega), List.getD_eq_getElem?_getD, List.getElem?_take, if_pos hjq.1, ← List.getD_eq_getElem?_getD]
          exact h
        have hlt : (mE p (K.take q)).length = q := by rw [mE_len, List.length_take]; omega
        go_region_law (first
          | (refine step_appM rfl (.tmp 40) (.tmp 43) rfl wq.heap.size (.slice (some ⟨_, 0, none⟩) 0 0) [] rfl (own_emptyM (by (repeat' (first | omega | (rw [hdrew]) | (with_reducible assumption) | (with_reducible exact Hid.out (by assumption)) | (with_reducible rfl) | ((with_reducible refine halloc_at _ _ _ ?_) <;> (first | (with_reducible rfl) | omega | (simp; done))) | (with_reducible refine chain6 ?_) | (with_reducible refine Eq.trans (hset_ne _ _ _ _ ?_) ?_) | (with_reducible refine Eq.trans (halloc_lt _ _ _ ?_) ?_) | (with_reducible refine Eq.trans (Below.block (Hid.out (by assumption)) _ ?_) ?_) | (simp; done) | (simp; omega)))) (by first | omega | (simp; omega))) g 0 cap (mE p (K.take q)) (by rw [hlt]; rfl) (HT.out _ (by (repeat' (first | (with_reducible exact Below.refl _ _) | (with_reducible refine Below.alloc ?_ ?_ _) | (with_reducible refine Below.setCell ?_ ?_ _) | (with_reducible refine Below.drew ?_) | (with_reducible refine below_drewN ?_ _) | (with_reducible refine Below.trans ?_ (Below.mono (Hid.out (by assumption)) ?_)) | omega | (simp; done) | (simp; omega))))) (by rw [hlt]; simp only [List.length_nil]; omega) (by first | exact Nat.le_refl _ | (simp; done) | (simp; omega)) ?_; intro v1 w1 hown1 hgrow1 hat1; have HO1 := Lib.hid hown1; have HG1 := Lib.hid hgrow1; have HA1 := Lib.hid hat1; have HB1 : Hid (Below wq.heap.size wq w1) := Lib.hid (Below.grown (by (repeat' (first | (with_reducible exact Below.refl _ _) | (with_reducible refine Below.alloc ?_ ?_ _) | (with_reducible refine Below.setCell ?_ ?_ _) | (with_reducible refine Below.drew ?_) | (with_reducible refine below_drewN ?_ _) | (with_reducible refine Below.trans ?_ (Below.mono (Hid.out (by assumption)) ?_)) | omega | (simp; done) | (simp; omega)))) hgrow1 (by first | exact Nat.le_refl _ | (simp; done) | (simp; omega)) (fun r e => by first | (simp [Value.ownBlock] at e; omega) | (simp [Value.ownBlock] at e; subst e; simp))); have hz1 : wq.heap.size ≤ w1.heap.size := HB1.out.size; obtain ⟨z0, z1, z2, z3, z4, z5⟩ := blk6 ((HB1.out.block _ hbxq).trans HXQ.out); clear hown1 hgrow1 hat1)
          | (refine step_appM rfl (.tmp 44) (.tmp 46) rfl wq.heap.size v1 ([] ++ mE p (K.take q)) rfl (by first | exact HO1.out | exact ownM_bel HO1.out (by (repeat' (first | (with_reducible exact Below.refl _ _) | (with_reducible refine Below.alloc ?_ ?_ _) | (with_reducible refine Below.setCell ?_ ?_ _) | (with_reducible refine Below.drew ?_) | (with_reducible refine below_drewN ?_ _) | (with_reducible refine Below.trans ?_ (Below.mono (Hid.out (by assumption)) ?_)) | omega | (simp; done) | (simp; omega))))) _ 0 1 [(p, dcd c)] rfl (at_one (by first | ((repeat' (first | omega | (rw [hdrew]) | (with_reducible assumption) | (with_reducible exact Hid.out (by assumption)) | (with_reducible rfl) | ((with_reducible refine halloc_at _ _ _ ?_) <;> (first | (with_reducible rfl) | omega | (simp; done))) | (with_reducible refine chain6 ?_) | (with_reducible refine Eq.trans (hset_ne _ _ _ _ ?_) ?_) | (with_reducible refine Eq.trans (halloc_lt _ _ _ ?_) ?_) | (with_reducible refine Eq.trans (Below.block (Hid.out (by assumption)) _ ?_) ?_) | (simp; done) | (simp; omega))); done) | ((refine (HG1.out.block _ ?_ ?_).trans ?_) <;> (first | (simp; done) | (simp; omega) | (simp [Value.ownBlock]; done) | (repeat' (first | omega | (rw [hdrew]) | (with_reducible assumption) | (with_reducible exact Hid.out (by assumption)) | (with_reducible rfl) | ((with_reducible refine halloc_at _ _ _ ?_) <;> (first | (with_reducible rfl) | omega | (simp; done))) | (with_reducible refine chain6 ?_) | (with_reducible refine Eq.trans (hset_ne _ _ _ _ ?_) ?_) | (with_reducible refine Eq.trans (halloc_lt _ _ _ ?_) ?_) | (with_reducible refine Eq.trans (Below.block (Hid.out (by assumption)) _ ?_) ?_) | (simp; done) | (simp; omega))))))) (by rw [List.nil_append, hlt]; simp only [List.length_cons, List.length_nil]; omega) (Nat.le_trans HB1.out.size (by first | exact Nat.le_refl _ | (simp; done))) ?_; intro v2 w2 hown2 hgrow2 hat2; have HO2 := Lib.hid hown2; have HB2 : Hid (Below wq.heap.size wq w2) := Lib.hid (Below.grown (by (repeat' (first | (with_reducible exact Below.refl _ _) | (with_reducible refine Below.alloc ?_ ?_ _) | (with_reducible refine Below.setCell ?_ ?_ _) | (with_reducible refine Below.drew ?_) | (with_reducible refine below_drewN ?_ _) | (with_reducible refine Below.trans ?_ (Below.mono (Hid.out (by assumption)) ?_)) | omega | (simp; done) | (simp; omega)))) hgrow2 (Nat.le_trans HB1.out.size (by first | exact Nat.le_refl _ | (simp; done))) (fun r e => (HO1.out.lt r e).1)); clear hown2 hgrow2 hat2))
        all_goals (try clear z0 z1 z2 z3 z4 z5)
        all_goals clear y0 y1 y2 y3 y4 y5
        all_goals
          have hld : (mE p (K.drop q)).length = K.length - q := by rw [mE_len, List.length_drop]
          have HNE : Hid (∀ (x : World) (a : Option Addr), InRowM x a (mE p (K.drop q))) := Lib.hid fun x a => Or.inl (by rw [List.drop_of_length_le (by omega)]; rfl)
          go_wp2_with (at_builtin; refine wpList_appM rfl _ _ rfl wq.heap.size v2 (([] ++ mE p (K.take q)) ++ [(p, dcd c)]) rfl HO2.out (if cap = q then (some ⟨g, 0, none⟩ : Option Addr) else some ⟨g, q * 6, none⟩) _ (mE p (K.drop q)) (fun e => by (try split at e) <;> cases e) (by rw [hld]; rfl) (HNE.out _ _) (by rw [hld]; simp [hlt]; omega) HB2.out.size ?_; intro v3 w3 hown3 hgrow3; have HO3 := Lib.hid hown3; have HB3 := Lib.hid (HB2.out.grown hgrow3 HB2.out.size (fun r e => (HO2.out.lt r e).1)); clear hown3 hgrow3)
          all_goals
            go_ret
            have hfin : ([] ++ mE p (K.take q)) ++ [(p, dcd c)] ++ mE p (K.drop q) = mE p (putN K c) := by
              rw [HIN.out, mE_app, List.nil_append]
              unfold mE
              simp
            have hO := HO3.out
            rw [hfin] at hO
            obtain ⟨g3, cap3, e3, hP⟩ := ownM_put hO (by rw [← hfin]; simp [hlt, hld]; omega) (by rw [← hfin]; simp)
            exact ⟨g3, cap3, by rw [e3]; rfl, hP.mono (by have := HBQ.out.size; omega), HBQ.out.trans (HB3.out.mono HBQ.out.size)⟩

end Go.Proofs.Ytiogagaclhjdaaa
