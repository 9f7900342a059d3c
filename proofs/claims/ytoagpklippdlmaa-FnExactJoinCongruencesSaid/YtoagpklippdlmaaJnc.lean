/- Joins of congruences: without Go; the contracts of spec.l06Joined and (productTable).join. The contracts of JoinCongruences, on both sides. -/
import Derived.Test.YtoagpklippdlmaaIcg
namespace Go.Proofs.Ytoagpklippdlmaa
open Go Go.RowKit

/-- What joining by pairs has made of the names tX. -/
structure Jn (m : Nat) (tX tY r : Nat → Int) (P : Nat → Nat → Prop) : Prop where
  kx : ∀ i j, i < m → j < m → tX i = tX j → r i = r j
  kp : ∀ i j, i < m → j < m → P i j → r i = r j
  snd : ∀ Q, Eqv m Q → KQ m tX Q → KQ m tY Q → KQ m r Q
  vl : ∀ i, i < m → ∃ j, j < m ∧ r i = tX j

theorem Jn.start (m : Nat) (tX tY : Nat → Int) (P : Nat → Nat → Prop) (h : ∀ i j, ¬ P i j) : Jn m tX tY tX P :=
  ⟨fun _ _ _ _ h => h, fun i j _ _ hp => absurd hp (h i j), fun _ _ h _ => h, fun i hi => ⟨i, hi, rfl⟩⟩

theorem Jn.step {m : Nat} {tX tY r : Nat → Int} {P P2 : Nat → Nat → Prop} (h : Jn m tX tY r P) {a b : Nat} (ha : a < m) (hb : b < m) (he : tY a = tY b) (hP : ∀ i j, P2 i j → P i j ∨ (i = a ∧ j = b)) : Jn m tX tY (rn r (r a) (r b)) P2 := by
  have hab : rn r (r a) (r b) a = rn r (r a) (r b) b := (rn_iff r _ _ _ _).2 (Or.inr ⟨Or.inl rfl, Or.inr rfl⟩)
  refine ⟨fun i j hi hj e => (rn_iff r _ _ i j).2 (Or.inl (h.kx i j hi hj e)), fun i j hi hj hp => ?_, fun Q hQ h1 h2 => kq_rn hQ (h.snd Q hQ h1 h2) ha hb (h2 a b ha hb he), fun i hi => ?_⟩
  · rcases hP i j hp with h2 | ⟨rfl, rfl⟩
    · exact (rn_iff r _ _ i j).2 (Or.inl (h.kp i j hi hj h2))
    · exact hab
  · unfold rn
    by_cases c : r i = r a
    · rw [if_pos c]; exact h.vl b hb
    · rw [if_neg c]; exact h.vl i hi

theorem Jn.skip {m : Nat} {tX tY r : Nat → Int} {P P2 : Nat → Nat → Prop} (h : Jn m tX tY r P) (hP : ∀ i j, i < m → j < m → P2 i j → P i j ∨ r i = r j) : Jn m tX tY r P2 :=
  ⟨h.kx, fun i j hi hj hp => by
    rcases hP i j hi hj hp with h2 | h2
    · exact h.kp i j hi hj h2
    · exact h2, h.snd, h.vl⟩

/-- Classes that are a congruence, as a relation. -/
theorem cls_cgr {m : Nat} {mu : Nat → Nat → Nat} (hmu : ∀ a b, a < m → b < m → mu a b < m) {s : Bool} {X : List Int} (h : cngB m mu s X = true) : Cgr m mu s (fun i j => tL X i = tL X j) := by
  have he : kerG m mu s (fun i j => tL X i = tL X j) = X := by simpa [cngB] using h
  have hiff : ∀ i j, i < m → j < m → (tL X i = tL X j ↔ Gen m mu s (fun i j => tL X i = tL X j) i j) := fun i j hi hj => by
    have := kerG_iff (mu := mu) (s := s) (P := fun i j => tL X i = tL X j) hi hj
    rw [he] at this
    exact this
  have G := gen_cgr m mu s (fun i j => tL X i = tL X j)
  exact ⟨ker_eqv m (tL X), fun i j c hi hj hc e => (hiff _ _ (hmu _ _ hi hc) (hmu _ _ hj hc)).2 (G.rt i j c hi hj hc ((hiff i j hi hj).1 e)),
    fun hs i j c hi hj hc e => (hiff _ _ (hmu _ _ hc hi) (hmu _ _ hc hj)).2 (G.lf hs i j c hi hj hc ((hiff i j hi hj).1 e))⟩

/-- The pairs of two lists of classes. -/
def por (tX tY : Nat → Int) (i j : Nat) : Prop := tX i = tX j ∨ tY i = tY j

theorem jn_sub {m : Nat} {mu : Nat → Nat → Nat} {tX tY r : Nat → Int} {P : Nat → Nat → Prop} (h : Jn m tX tY r P) {i j : Nat} (hi : i < m) (hj : j < m) (e : r i = r j) : Gen m mu true (por tX tY) i j :=
  h.snd _ (gen_cgr m mu true (por tX tY)).eqv (fun _ _ ha hb c => gen_base ha hb (Or.inl c)) (fun _ _ ha hb c => gen_base ha hb (Or.inr c)) i j hi hj e

/-- Closed anew, the join is that of both. -/
theorem jn_kerG {m : Nat} {mu : Nat → Nat → Nat} {tX tY r : Nat → Int} {P : Nat → Nat → Prop} (h : Jn m tX tY r P) (hP : ∀ i j, i < m → j < m → tY i = tY j → r i = r j) : kerG m mu true (fun i j => r i = r j) = kerG m mu true (por tX tY) :=
  kerG_congr (fun _ _ ha hb c => jn_sub h ha hb c) (fun a b ha hb c => gen_base ha hb (by
    rcases c with c | c
    · exact h.kx a b ha hb c
    · exact hP a b ha hb c))

/-- The join of two congruences is closed already. -/
theorem jn_gen {m : Nat} {mu : Nat → Nat → Nat} (hmu : ∀ a b, a < m → b < m → mu a b < m) {tX tY r : Nat → Int} {P : Nat → Nat → Prop} (h : Jn m tX tY r P) (hP : ∀ i j, i < m → j < m → tY i = tY j → r i = r j)
    (hX : Cgr m mu true (fun i j => tX i = tX j)) (hY : Cgr m mu true (fun i j => tY i = tY j)) (i j : Nat) (hi : i < m) (hj : j < m) : r i = r j ↔ Gen m mu true (por tX tY) i j := by
  refine ⟨fun e => jn_sub h hi hj e, fun g => ?_⟩
  have hcl := h.snd _ (cl_eqv m mu true r)
    (fun a b ha hb e => ⟨fun c hc => h.kx _ _ (hmu _ _ ha hc) (hmu _ _ hb hc) (hX.rt a b c ha hb hc e), fun hs c hc => h.kx _ _ (hmu _ _ hc ha) (hmu _ _ hc hb) (hX.lf hs a b c ha hb hc e)⟩)
    (fun a b ha hb e => ⟨fun c hc => hP _ _ (hmu _ _ ha hc) (hmu _ _ hb hc) (hY.rt a b c ha hb hc e), fun hs c hc => hP _ _ (hmu _ _ hc ha) (hmu _ _ hc hb) (hY.lf hs a b c ha hb hc e)⟩)
  exact g (fun i j => r i = r j) ⟨ker_eqv m r, fun a b c ha hb hc e => (hcl a b ha hb e).1 c hc, fun hs a b c ha hb hc e => (hcl a b ha hb e).2 hs c hc⟩ (fun a b ha hb c => by
    rcases c with c | c
    · exact h.kx a b ha hb c
    · exact hP a b ha hb c)

/-- The pairs that a search over all pairs has seen. -/
def psn (tY : Nat → Int) (k q i j : Nat) : Prop := tY i = tY j ∧ ((i < k ∧ j < i) ∨ (i = k ∧ j < q))

theorem psn_all {m : Nat} {tX tY r : Nat → Int} (h : Jn m tX tY r (psn tY m 0)) : ∀ i j, i < m → j < m → tY i = tY j → r i = r j := fun i j hi hj e => by
  rcases Nat.lt_trichotomy i j with c | c | c
  · exact (h.kp j i hj hi ⟨e.symm, Or.inl ⟨hj, c⟩⟩).symm
  · rw [c]
  · exact h.kp i j hi hj ⟨e, Or.inl ⟨hi, c⟩⟩

theorem psn_succ {tY : Nat → Int} {k q i j : Nat} (h : psn tY k (q + 1) i j) : psn tY k q i j ∨ (i = k ∧ j = q ∧ tY i = tY j) := by
  obtain ⟨e, h | ⟨h1, h2⟩⟩ := h
  · exact Or.inl ⟨e, Or.inl h⟩
  · rcases Nat.lt_succ_iff_lt_or_eq.1 h2 with c | c
    · exact Or.inl ⟨e, Or.inr ⟨h1, c⟩⟩
    · exact Or.inr ⟨h1, c, e⟩

theorem psn_row {tY : Nat → Int} {k i j : Nat} (h : psn tY (k + 1) 0 i j) : psn tY k k i j := by
  obtain ⟨e, ⟨h1, h2⟩ | ⟨_, h2⟩⟩ := h
  · rcases Nat.lt_succ_iff_lt_or_eq.1 h1 with c | c
    · exact ⟨e, Or.inl ⟨c, h2⟩⟩
    · subst c; exact ⟨e, Or.inr ⟨rfl, h2⟩⟩
  · omega

set_option maxRecDepth 100000 in
set_option maxHeartbeats 4000000 in
theorem sjoi_any (m : Nat) (hm : m ≤ 30) (hm1 : 1 ≤ m) (mu : Nat → Nat → Nat) (hmu : ∀ a b, a < m → b < m → mu a b < m) (X Y : List Int) (hX : X.length = m) (hY : Y.length = m) (aT ax ay : Option Addr) (cT cx cy K : Nat) (w : World) (ht : Tb w K aT m mu) (hrx : InRow w ax X) (hry : InRow w ay Y) :
    Calls Try.prog 60 #[.slice aT m cT, .slice ax m cx, .slice ay m cy] w (RetOwn w.heap.size (kerG m mu true (por (tL X) (tL Y))) w) := by
  have hXn : X ≠ [] := fun e => by rw [e] at hX; simp at hX; omega
  have hYn : Y ≠ [] := fun e => by rw [e] at hY; simp at hY; omega
  obtain ⟨b0, o0, rfl, hlt0, hin0⟩ := hrx.resolve_left hXn
  have HOW := Lib.hid (own_any b0 o0 m cx X hX (by omega) w hlt0 (fun i hi => hin0 i (by omega)))
  have HT := Lib.hid ht
  have HRY := Lib.hid hry
  have hKw := ht.hK
  have HCL := Lib.hid fun Z hZ a c w ht hr => clsd_any m (by omega) hm1 mu hmu true Z hZ aT a cT c K w ht hr
  have HJ := Lib.hid fun (r : Nat → Int) (i j : Nat) (g cap : Nat) (z : World) (hg : w.heap.size ≤ g) (h : Nm z g m r) => join_any m (by omega) r g w.heap.size cap (r i) (r j) z hg h
  obtain ⟨tX, htX⟩ : ∃ tX, tX = tL X := ⟨_, rfl⟩
  obtain ⟨tY, htY⟩ : ∃ tY, tY = tL Y := ⟨_, rfl⟩
  have HTY := Lib.hid htY
  rw [← htX, ← htY]
  clear hrx hry hlt0 hin0 ht hmu htY
  go_enter Try.func60, Try.ntmps60
  go_wp2_with fail
  refine HOW.out.mono ?_
  rintro e w1 ⟨v, rfl, hown, hb1⟩
  obtain ⟨g, cap, rfl, hg, hnm⟩ := own_nm hown hXn
  rw [hX, ← htX] at hnm
  have HN1 := Lib.hid hnm
  have HB1 := Lib.hid hb1
  clear hown hb1 hnm HOW hXn htX
  rw [hX]
  go_wp2_with fail
  go_loopw [8, 9] (fun i _ wr => ∃ (k : Nat) (r : Nat → Int), k ≤ m ∧ i = .int .i64 k ∧ Nm wr g m r ∧ Below w.heap.size w wr ∧ Jn m tX tY r (psn tY k 0)) (fun i _ _ => m - (intOf i).toNat)
  case atStart => exact ⟨0, tX, by omega, rfl, HN1.out, HB1.out, Jn.start m tX tY _ (fun i j h => by obtain ⟨_, ⟨h1, _⟩ | ⟨_, h2⟩⟩ := h <;> omega)⟩
  case round =>
    obtain ⟨k, r1, hk, rfl, hn, hb, hj⟩ := hrel
    have HN2 := Lib.hid hn
    have HB2 := Lib.hid hb
    have HJ2 := Lib.hid hj
    clear hn hb hj
    by_cases hkm : k < m
    · have hkm' : (k : Int) < (m : Int) := by omega
      obtain ⟨wo, hwo⟩ : ∃ wo, wo = wr := ⟨_, rfl⟩
      subst hwo
      go_wp2_with fail
      go_loopw [9] (fun i wr => ∃ (q : Nat) (r : Nat → Int), q ≤ k ∧ i = .int .i64 q ∧ Nm wr g m r ∧ Below w.heap.size w wr ∧ Jn m tX tY r (psn tY k q)) (fun i _ => k - (intOf i).toNat)
      case atStart => exact ⟨0, r1, by omega, rfl, HN2.out, HB2.out, HJ2.out⟩
      case round =>
        obtain ⟨q, r2, hq, rfl, hn, hb, hj⟩ := hrel
        have HN3 := Lib.hid hn
        have HB3 := Lib.hid hb
        have HJ3 := Lib.hid hj
        have hbs := hb.size
        by_cases hqk : q < k
        · have hqk' : (q : Int) < (k : Int) := by omega
          have hqm : q < m := by omega
          have hqm' : (q : Int) < (m : Int) := by omega
          obtain ⟨b, off, rfl, hlt, hin⟩ := (HRY.out.below hb).resolve_left hYn
          have y1 := hin k (by omega)
          have y2 := hin q (by omega)
          rw [show Y.getD k 0 = tY k by rw [HTY.out]; rfl] at y1
          rw [show Y.getD q 0 = tY q by rw [HTY.out]; rfl] at y2
          have e1 := hn.cell hkm
          have e2 := hn.cell hqm
          clear hn hb hj hin
          by_cases hy : tY k = tY q
          · have hq0 : (tY k == tY q) = true := by simpa using hy
            have HY := Lib.hid hy
            by_cases hr : r2 k = r2 q
            · have hq1 : (r2 k != r2 q) = false := by simpa using hr
              have HR := Lib.hid hr
              clear hy hr
              generalize tY k = U at *
              generalize tY q = V at *
              obtain ⟨A, hA⟩ : ∃ A, A = r2 k := ⟨_, rfl⟩
              obtain ⟨B, hB⟩ : ∃ B, B = r2 q := ⟨_, rfl⟩
              rw [← hA] at e1 hq1
              rw [← hB] at e2 hq1
              clear hA hB
              go_wp2_with fail
              go_quiet (fail)
              go_wp2_with fail
              go_roundw
              case rel => exact ⟨q + 1, r2, by omega, by go_num, HN3.out.below (below_drewN (Below.refl _ _) _), below_drewN HB3.out _, HJ3.out.skip (fun i j _ _ hp => by
                rcases psn_succ hp with h | ⟨h1, h2, _⟩
                · exact Or.inl h
                · rw [h1, h2]; exact Or.inr HR.out)⟩
              case measure => simp [intOf]; omega
            · have hq1 : (r2 k != r2 q) = true := by simpa using hr
              have HJQ := Lib.hid fun z h => HJ.out r2 k q g cap z hg h
              have HSP : Hid (Jn m tX tY (rn r2 (r2 k) (r2 q)) (psn tY k (q + 1))) := Lib.hid (HJ3.out.step hkm hqm HY.out (fun i j hp => by
                rcases psn_succ hp with h | ⟨h1, h2, _⟩
                · exact Or.inl h
                · exact Or.inr ⟨h1, h2⟩))
              obtain ⟨r3, hr3⟩ : ∃ r3, r3 = rn r2 (r2 k) (r2 q) := ⟨_, rfl⟩
              rw [← hr3] at HJQ HSP
              clear hy hr hr3
              generalize tY k = U at *
              generalize tY q = V at *
              obtain ⟨A, hA⟩ : ∃ A, A = r2 k := ⟨_, rfl⟩
              obtain ⟨B, hB⟩ : ∃ B, B = r2 q := ⟨_, rfl⟩
              rw [← hA] at e1 hq1 HJQ
              rw [← hB] at e2 hq1 HJQ
              clear hA hB
              go_wp2_with fail
              go_quiet (fail)
              obtain ⟨wq, hwq⟩ : ∃ wx, wx = wr.drewN nq := ⟨_, rfl⟩
              rw [← hwq]
              have HWQ : Hid (Below wr.heap.size wr wq) := Lib.hid (by rw [hwq]; exact below_drewN (Below.refl _ _) _)
              clear hwq
              have e1 := (HWQ.out.cell (p := ⟨g, k, none⟩) HN3.out.lt).trans e1
              have e2 := (HWQ.out.cell (p := ⟨g, q, none⟩) HN3.out.lt).trans e2
              have HNQ := Lib.hid (HN3.out.below HWQ.out)
              have HBQ : Hid (Below w.heap.size w wq) := Lib.hid (HB3.out.trans (HWQ.out.mono hbs))
              clear y1 y2 hq1
              go_wp2_with fail
              go_still_tail 9, (by kernel_rfl)
              go_wp2_with fail
              refine (HJQ.out _ ?nm).mono ?_
              case nm => first | exact HNQ.out.below (Below.refl _ _).drew | exact HNQ.out.below (below_drewN (Below.refl _ _) _)
              rintro e w6 ⟨rfl, hn6, hb6⟩
              have HN6 := Lib.hid hn6
              have HB6 : Hid (Below w.heap.size w w6) := Lib.hid (HBQ.out.trans (by first | exact (Below.refl _ _).drew.trans hb6 | exact (below_drewN (Below.refl _ _) _).trans hb6))
              clear hn6 hb6
              go_wp2_with fail
              go_roundw
              case rel => exact ⟨q + 1, r3, by omega, by go_num, HN6.out, HB6.out, HSP.out⟩
              case measure => simp [intOf]; omega
          · have hq0 : (tY k == tY q) = false := by simpa using hy
            have HY := Lib.hid hy
            clear hy
            obtain ⟨A, hA⟩ : ∃ A, A = r2 k := ⟨_, rfl⟩
            obtain ⟨B, hB⟩ : ∃ B, B = r2 q := ⟨_, rfl⟩
            rw [← hA] at e1
            rw [← hB] at e2
            clear hA hB
            have HSK : Hid (Jn m tX tY r2 (psn tY k (q + 1))) := Lib.hid (HJ3.out.skip (fun i j _ _ hp => by
              rcases psn_succ hp with h | ⟨h1, h2, h3⟩
              · exact Or.inl h
              · rw [h1, h2] at h3; exact absurd h3 HY.out))
            generalize tY k = U at *
            generalize tY q = V at *
            go_wp2_with fail
            go_quiet (fail)
            go_wp2_with fail
            go_roundw
            case rel => exact ⟨q + 1, r2, by omega, by go_num, HN3.out.below (below_drewN (Below.refl _ _) _), below_drewN HB3.out _, HSK.out⟩
            case measure => simp [intOf]; omega
        · obtain rfl : q = k := by omega
          clear hn hb hj
          go_wp2_with fail
          go_roundw
          case rel => exact ⟨q + 1, r2, by omega, by go_num, HN3.out, HB3.out, HJ3.out.skip (fun i j _ _ hp => Or.inl (psn_row hp))⟩
          case measure => simp [intOf]; omega
    · obtain rfl : k = m := by omega
      have hfin : kerG k mu true (fun i j => tL (nml r1 k) i = tL (nml r1 k) j) = kerG k mu true (por tX tY) := by
        rw [← jn_kerG HJ2.out (psn_all HJ2.out)]
        exact kerG_congr (fun a b ha hb c => gen_base ha hb (by
          have h1 := nml_at r1 k a ha
          have h2 := nml_at r1 k b hb
          rw [← h1, ← h2]; exact c)) (fun a b ha hb c => gen_base ha hb (by
          have h1 := nml_at r1 k a ha
          have h2 := nml_at r1 k b hb
          show (nml r1 k).getD a 0 = (nml r1 k).getD b 0
          rw [h1, h2]; exact c))
      have hcl := fun a c w ht hr => HCL.out (nml r1 k) (nml_len r1 k) a c w ht hr
      rw [hfin] at hcl
      have HCF := Lib.hid hcl
      have HIR := Lib.hid (HN2.out.inRow (nml_len r1 k) fun i hi => nml_at r1 k i hi)
      have HT2 := Lib.hid (HT.out.below (HB2.out.mono hKw))
      clear hfin hcl
      go_wp2_with fail
      refine (HCF.out _ _ _ HT2.out HIR.out).mono ?_
      rintro e w5 ⟨v, rfl, hown, hb5⟩
      have hsz := HB2.out.size
      have HB5 : Hid (Below w.heap.size w w5) := Lib.hid (HB2.out.trans (hb5.mono hsz))
      have HO := Lib.hid (hown.mono hsz)
      clear hown hb5
      go_wp2_with fail
      go_ret
      exact ⟨v, rfl, HO.out, HB5.out⟩

set_option maxRecDepth 100000 in
set_option maxHeartbeats 1000000 in
theorem ren2_any (m : Nat) (hm : m ≤ 1000) (r : Nat → Int) (g cap : Nat) (x y : Int) (w : World) (h : Nm w g m r) :
    Calls Try.prog 92 #[.slice (some ⟨g, 0, none⟩) m cap, .int .i64 x, .int .i64 y] w fun e w' => e = .returned (.tuple #[]) ∧ Nm w' g m (rn r x y) ∧ Turn w w' (fun b => b = g) := by
  have HN := Lib.hid h
  clear h
  go_enter Try.func92, Try.ntmps92
  go_wp2_with fail
  go_loopw [6, 7, 10] (fun _ _ i wr => ∃ k : Nat, k ≤ m ∧ i = .int .i64 k ∧ Nm wr g m (rnk r x y k) ∧ Turn w wr (fun b => b = g)) (fun _ _ i _ => m - (intOf i).toNat)
  case atStart => exact ⟨0, by omega, rfl, HN.out.congr (fun i _ => by unfold rnk; rw [if_neg (by omega)]), Turn.of_below (Below.refl _ _)⟩
  case round =>
    obtain ⟨k, hk, rfl, hn, hb⟩ := hrel
    have HB := Lib.hid hb
    have HM := Lib.hid hn
    clear hb hn
    by_cases hkm : k < m
    · have hkm' : (k : Int) < (m : Int) := by omega
      have e1 := HM.out.cell hkm
      have e2 := HM.out.free k
      rw [rnk_at] at e1
      by_cases hx : r k = x
      · have hq : (r k == x) = true := by simpa using hx
        have hset := HM.out.set hkm y
        have hrs := rnk_succ r x y k
        rw [rn_hit r x y k hx] at hrs
        rw [hrs] at hset
        clear hrs
        have HS := Lib.hid hset
        clear hset hx
        generalize r k = Z at *
        go_wp2_with fail
        go_roundw
        case rel => exact ⟨k + 1, by omega, by go_num, HS.out, HB.out.setCell rfl⟩
        case measure => simp [intOf]; omega
      · have hq : (r k == x) = false := by simpa using hx
        have HS := HM.out
        rw [rnk_keep r x y k hx] at HS
        have HS := Lib.hid HS
        clear hx
        generalize r k = Z at *
        go_wp2_with fail
        go_roundw
        case rel => exact ⟨k + 1, by omega, by go_num, HS.out, HB.out⟩
        case measure => simp [intOf]; omega
    · obtain rfl : k = m := by omega
      go_wp2_with fail
      go_end0
      exact ⟨rfl, HM.out.congr (fun i hi => by unfold rnk; rw [if_pos hi]), HB.out⟩

theorem nm_arr {w : World} {g m : Nat} {X : List Int} (hm : m ≤ 30) (h : w.heap[g]? = some (.cells (ac X) 64 (0, 0))) : Nm w g m (tL X) :=
  ⟨_, _, h, fun i hi => ac_at X i (by omega)⟩

/-- The pairs of first elements and elements, among the first q. -/
def pst (tY : Nat → Int) (q i j : Nat) : Prop := j < q ∧ i = fst1 tY j

theorem pst_all {m : Nat} {tX tY r : Nat → Int} (h : Jn m tX tY r (pst tY m)) : ∀ i j, i < m → j < m → tY i = tY j → r i = r j := fun i j hi hj e => by
  have h1 := (fst1_at tY i).2.1
  have h2 := (fst1_at tY j).2.1
  have a := h.kp (fst1 tY i) i (by omega) hi ⟨hi, rfl⟩
  have b := h.kp (fst1 tY j) j (by omega) hj ⟨hj, rfl⟩
  rw [fst1_eq e] at a
  exact a.symm.trans b

theorem Turn.bel {w w' : World} {g B : Nat} (h : Turn w w' (fun b => b = g)) (hB : B ≤ g) (hg : g < w.heap.size) : Below B w w' :=
  ⟨h.os, h.tape, h.output, h.size, fun k hk => h.block k (by omega) (by omega)⟩

theorem Turn.cell {w w' : World} {S : Nat → Prop} {b i : Nat} (h : Turn w w' S) (hb : b < w.heap.size) (hS : ¬ S b) : w'.cell? ⟨b, i, none⟩ = w.cell? ⟨b, i, none⟩ := by
  have e := h.block b hb hS
  obtain ⟨o, ho⟩ : ∃ o, w.heap[b]? = some o := ⟨_, Array.getElem?_eq_getElem hb⟩
  rw [ho] at e
  unfold World.cell?
  simp only [ho, e]

/-- A list of pairs of the call's own, by its block. -/
theorem ownP_blk {w : World} {B : Nat} {v : Value} {P : List (Nat × Nat)} (h : OwnP w B v P) (hne : P ≠ []) : ∃ b cap, v = .slice (some ⟨b, 0, none⟩) P.length cap ∧ B ≤ b ∧ b < w.heap.size ∧ ∀ j, j < P.length → w.cell? ⟨b, j * 2, none⟩ = some (.int .i64 ((P.getD j (0, 0)).1 : Nat)) ∧ w.cell? ⟨b, j * 2 + 1, none⟩ = some (.int .i64 ((P.getD j (0, 0)).2 : Nat)) := by
  have hx := ownP_in h
  obtain ⟨hl, ⟨h1, h0⟩ | ⟨g, cap, cur, h1, hB, hg, rest⟩⟩ := h
  · exact absurd (List.length_eq_zero_iff.1 h0) hne
  · subst h1
    obtain ⟨a, c, e, hin⟩ := hx
    injection e with e1 e2 e3
    subst e1
    obtain ⟨b, e4, hlt, hc⟩ := hin.resolve_left hne
    injection e4 with e4
    injection e4 with e4
    subst e4
    exact ⟨_, _, rfl, hB, hlt, hc⟩

theorem pairsIn3_any (m : Nat) (hm : m ≤ 30) (hm1 : 1 ≤ m) (L : List Int) (hL : Cls L m) (a : Option Addr) (c : Nat) (w : World) :
    Calls Try.prog 57 #[.slice a m c, .agg (ac L)] w fun e w' => ∃ b cap, e = .returned (.slice (some ⟨b, 0, none⟩) m cap) ∧ w.heap.size ≤ b ∧ b < w'.heap.size ∧ (∀ j, j < m → w'.cell? ⟨b, j * 2, none⟩ = some (.int .i64 (fst1 (tL L) j : Nat)) ∧ w'.cell? ⟨b, j * 2 + 1, none⟩ = some (.int .i64 (j : Nat))) ∧ Below w.heap.size w w' := by
  refine (pairsIn_any m hm hm1 L hL a c w).mono ?_
  rintro e w' ⟨v, rfl, hown, hb⟩
  obtain ⟨b, cap, rfl, hB, hlt, hc⟩ := ownP_blk hown (fun e => by have := congrArg List.length e; rw [pin_len] at this; simp at this; omega)
  rw [pin_len] at hc
  refine ⟨b, cap, by rw [pin_len], hB, hlt, fun j hj => ?_, hb⟩
  have h := hc j hj
  rw [show (pin L m).getD j (0, 0) = (fst1 (tL L) j, j) by unfold pin; simp [hj]] at h
  exact h

set_option maxRecDepth 100000 in
set_option maxHeartbeats 4000000 in
theorem ijoi_any (m : Nat) (hm : m ≤ 30) (hm1 : 1 ≤ m) (mu : Nat → Nat → Nat) (hmu : ∀ a b, a < m → b < m → mu a b < m) (X Y : List Int) (hX : Cls X m) (hY : Cls Y m) (hcX : Cgr m mu true (fun i j => tL X i = tL X j)) (hcY : Cgr m mu true (fun i j => tL Y i = tL Y j)) (aT : Option Addr) (cT : Nat) (w : World) :
    Calls Try.prog 62 #[.slice aT m cT, .agg (ac X), .agg (ac Y)] w fun e w' => e = .returned (.agg (ac (kerG m mu true (por (tL X) (tL Y))))) ∧ Below w.heap.size w w' := by
  have hz : ∀ w : World, (zeroValue 64).run Try.prog w = .ok (.agg (acl []).toArray) w := fun _ => by kernel_rfl
  have h0 := acl_len (L := []) (by simp)
  obtain ⟨Z, hZ⟩ : ∃ Z, Z = (acl []).toArray := ⟨_, rfl⟩
  have HZS : Hid (Z.size = 30) := Lib.hid (by rw [hZ]; simp [h0])
  rw [← hZ] at hz
  clear h0 hZ
  have HPI := Lib.hid fun w => pairsIn3_any m hm hm1 Y hY aT cT w
  have hsx := ac_size (L := X) (by rw [hX.1]; exact hm)
  have hsy := ac_size (L := Y) (by rw [hY.1]; exact hm)
  have HSX := Lib.hid (size_arr1 _ hsx)
  have HSY := Lib.hid (size_arr1 _ hsy)
  have HNX : Hid (∀ (w : World) (g : Nat), w.heap[g]? = some (.cells (ac X) 64 (0, 0)) → Nm w g m (tL X)) := Lib.hid fun w g h => nm_arr hm h
  have HCLI := Lib.hid fun w => clist_any m hm (ac X) hsx aT cT w
  have HWF : Hid (∀ i, i < m → (Lit.int .i64 (tL X i)).wf = true) := Lib.hid fun i hi => by
    have := hX.bd hi
    exact WalkArith.wf_i64 (by omega)
  have HAC : Hid (∀ L : List Int, L.length = m → ∀ (a : Option Addr) (c : Nat) (w : World), InRow w a L → Calls Try.prog 85 #[.slice a m c] w fun e w' => e = .returned (.agg (ac L)) ∧ Below w.heap.size w w') := Lib.hid fun L hL a c w h => by
    have := arrC_any L (by omega) a c w h
    rw [hL] at this
    exact this
  have HGEN : Hid (∀ r, Jn m (tL X) (tL Y) r (pst (tL Y) m) → kerK r m = kerG m mu true (por (tL X) (tL Y))) := Lib.hid fun r h => kerG_eq (jn_gen hmu h (pst_all h) hcX hcY)
  have hu := Try.underlying64
  clear hsx hsy hmu hcX hcY hX hY
  generalize ac X = CX at *
  generalize ac Y = CY at *
  go_enter Try.func62, Try.ntmps62
  go_wp2_with (with_reducible refine wpList_load_row rfl 64 (.tmp 4) rfl w.heap.size rfl 64 CX (0, 0) _ ?h4 hu rfl HSX.out ?_)
  case h4 => exact (halloc_lt _ _ _ (by simp; omega)).trans ((halloc_lt _ _ _ (by simp)).trans (halloc_at w _ _ rfl))
  obtain ⟨wz, hwz⟩ : ∃ wz, wz = ((w.alloc (.cells CX 64)).alloc (.cells CY 64)).alloc (.cells Z 64) := ⟨_, rfl⟩
  rw [← hwz]
  have HBY : Hid (wz.heap[w.heap.size + 1]? = some (.cells CY 64 (0, 0))) := Lib.hid (by rw [hwz]; exact (halloc_lt _ _ _ (by simp)).trans (halloc_at _ _ _ (by simp)))
  have HBX : Hid (wz.heap[w.heap.size + 1 + 1]? = some (.cells Z 64 (0, 0))) := Lib.hid (by rw [hwz]; exact halloc_at _ _ _ (by simp))
  have HBZ : Hid (Below w.heap.size w wz) := Lib.hid (by rw [hwz]; exact (((Below.refl _ _).alloc (Nat.le_refl _) _).alloc (by simp) _).alloc (by simp; omega) _)
  have hsz : wz.heap.size = w.heap.size + 3 := by rw [hwz]; simp
  clear hwz hz
  refine (HCLI.out _).mono ?_
  rintro e w1 ⟨rfl, hw1⟩
  have HB1 : Hid (Below wz.heap.size wz w1) := Lib.hid (by rw [hw1]; exact (Below.refl _ _).alloc (Nat.le_refl _) _)
  have HN1 : Hid (w1.heap[wz.heap.size]? = some (.cells CX 64 (0, 0))) := Lib.hid (by rw [hw1]; exact halloc_at _ _ _ rfl)
  have hs1 : w1.heap.size = wz.heap.size + 1 := by rw [hw1]; simp
  have hy1 : w1.heap[w.heap.size + 1]? = some (.cells CY 64 (0, 0)) := (HB1.out.block _ (by omega)).trans HBY.out
  clear hw1
  go_wp2_with (with_reducible refine wpList_load_row rfl 64 (.tmp 5) rfl (w.heap.size + 1) rfl 64 CY (0, 0) _ hy1 hu rfl HSY.out ?_)
  refine (HPI.out _).mono ?_
  rintro e w2 ⟨b2, c2, rfl, hbg, hb2l, hcs, hb2⟩
  have hs2 := hb2.size
  have HN2 := Lib.hid (HNX.out w2 (w.heap.size + 3) (by rw [← hsz]; exact (hb2.block _ (by omega)).trans HN1.out))
  have HB2 : Hid (Below wz.heap.size wz w2) := Lib.hid (HB1.out.trans (hb2.mono (by omega)))
  have HCS := Lib.hid hcs
  have HGB : Hid (b2 ≠ w.heap.size + 3) := Lib.hid (by omega)
  have HJ0 : Hid (Jn m (tL X) (tL Y) (tL X) (pst (tL Y) 0)) := Lib.hid (Jn.start _ _ _ _ (fun i j h => by unfold pst at h; omega))
  have HRN : Hid (∀ (r : Nat → Int) (x y : Int) (z : World), Nm z (w.heap.size + 3) m r → Calls Try.prog 92 #[.slice (some ⟨w.heap.size + 3, 0, none⟩) m 30, .int .i64 x, .int .i64 y] z fun e w' => e = .returned (.tuple #[]) ∧ Nm w' (w.heap.size + 3) m (rn r x y) ∧ Turn z w' (fun b => b = w.heap.size + 3)) := Lib.hid fun r x y z h => ren2_any m (by omega) r (w.heap.size + 3) 30 x y z h
  have HFS : Hid (∀ j, j < m → fst1 (tL Y) j < m ∧ tL Y (fst1 (tL Y) j) = tL Y j) := Lib.hid fun j hj => ⟨by have := (fst1_at (tL Y) j).2.1; omega, (fst1_at (tL Y) j).1⟩
  have HST : Hid (∀ (r : Nat → Int) q, q < m → Jn m (tL X) (tL Y) r (pst (tL Y) q) → Jn m (tL X) (tL Y) (rn r (r (fst1 (tL Y) q)) (r q)) (pst (tL Y) (q + 1))) := Lib.hid fun r q hq h => h.step (HFS.out q hq).1 hq (HFS.out q hq).2 (fun i j hp => by
    obtain ⟨h1, h2⟩ := hp
    rcases Nat.lt_succ_iff_lt_or_eq.1 h1 with c | c
    · exact Or.inl ⟨c, h2⟩
    · subst c; exact Or.inr ⟨h2, rfl⟩)
  clear hcs hb2 hy1 HNX HPI
  obtain ⟨tX, htX⟩ : ∃ tX, tX = tL X := ⟨_, rfl⟩
  obtain ⟨tY, htY⟩ : ∃ tY, tY = tL Y := ⟨_, rfl⟩
  rw [← htX] at HN2 HJ0 HST HGEN HWF
  rw [← htY] at HJ0 HST HGEN HFS HCS
  have HTX := Lib.hid htX
  have HTY := Lib.hid htY
  clear htX htY
  go_wp2_with fail
  go_loopw [9, 17] (fun _ i wr => ∃ (q : Nat) (r : Nat → Int), q ≤ m ∧ i = .int .i64 q ∧ Nm wr (w.heap.size + 3) m r ∧ Turn w2 wr (fun b => b = w.heap.size + 3) ∧ Jn m tX tY r (pst tY q)) (fun _ i _ => m - (intOf i).toNat)
  case atStart => exact ⟨0, _, by omega, rfl, HN2.out, Turn.of_below (Below.refl _ _), HJ0.out⟩
  case round =>
    obtain ⟨q, r, hq, rfl, hn, ht, hj⟩ := hrel
    have HN3 := Lib.hid hn
    have HT3 := Lib.hid ht
    have HJ3 := Lib.hid hj
    have hts := ht.size
    by_cases hqm : q < m
    · have hqm' : (q : Int) < (m : Int) := by omega
      obtain ⟨x1, x2⟩ := HCS.out q hqm
      have x1 := (ht.cell hb2l HGB.out).trans x1
      have x2 := (ht.cell hb2l HGB.out).trans x2
      obtain ⟨hAm, _⟩ := HFS.out q hqm
      have HSQ := Lib.hid (HST.out r q hqm hj)
      obtain ⟨A, hA⟩ : ∃ A, A = fst1 tY q := ⟨_, rfl⟩
      rw [← hA] at x1 hAm HSQ
      have hAm' : (A : Int) < (m : Int) := by omega
      clear hn ht hj hA
      go_wp2_with fail
      obtain ⟨wq, hwq⟩ : ∃ wx, wx = wr.alloc (.cells #[.int .i64 A, .int .i64 q] 100) := ⟨_, rfl⟩
      rw [← hwq]
      have p1 : wq.cell? ⟨wr.heap.size, 0, none⟩ = some (.int .i64 A) := by rw [hwq]; exact Joins.cell_of_block (halloc_at wr _ _ rfl) 0
      have p2 : wq.cell? ⟨wr.heap.size, 1, none⟩ = some (.int .i64 q) := by rw [hwq]; exact Joins.cell_of_block (halloc_at wr _ _ rfl) 1
      have HWQ : Hid (Below wr.heap.size wr wq) := Lib.hid (by rw [hwq]; exact (Below.refl _ _).alloc (Nat.le_refl _) _)
      clear hwq x1 x2
      have HNQ := Lib.hid (HN3.out.below HWQ.out)
      have e1 := HNQ.out.cell hAm
      have e2 := HNQ.out.cell hqm
      have HRQ := Lib.hid (HRN.out r (r A) (r q))
      obtain ⟨r3, hr3⟩ : ∃ r3, r3 = rn r (r A) (r q) := ⟨_, rfl⟩
      rw [← hr3] at HRQ HSQ
      clear hr3
      generalize r A = U at *
      generalize r q = V at *
      go_still_tail 11, (by kernel_rfl)
      go_wp2_with fail
      refine (HRQ.out _ ?nm).mono ?_
      case nm => first | exact HNQ.out.below (Below.refl _ _).drew | exact HNQ.out.below (below_drewN (Below.refl _ _) _)
      rintro e w4 ⟨rfl, hn4, ht4⟩
      have HN4 := Lib.hid hn4
      have HT4 : Hid (Turn w2 w4 (fun b => b = w.heap.size + 3)) := Lib.hid ((HT3.out.trans (Turn.of_below HWQ.out)).trans (by first | exact (Turn.of_below (Below.refl _ _).drew).trans ht4 | exact (Turn.of_below (below_drewN (Below.refl _ _) _)).trans ht4))
      clear hn4 ht4
      go_wp2_with fail
      go_roundw
      case rel => exact ⟨q + 1, r3, by omega, by go_num, HN4.out, HT4.out, HSQ.out⟩
      case measure => simp [intOf]; omega
    · obtain rfl : q = m := by omega
      have hvals : ∀ i, i < q → (Lit.int .i64 (r i)).wf = true := fun i hi => by
        obtain ⟨j, hj2, e⟩ := hj.vl i hi
        rw [e]; exact HWF.out j hj2
      have HG := Lib.hid (HGEN.out r hj)
      have HNB := Lib.hid (nbarr_any q hm r (w.heap.size + 3) 30 wr hvals hn)
      have hkl := kerK_len r q
      have HBB : Hid (Below wz.heap.size wz wr) := Lib.hid (HB2.out.trans (ht.bel (by omega) (by omega)))
      clear hn ht hj hvals
      go_wp2_with fail
      refine HNB.out.mono ?_
      rintro e w5 ⟨a5, c5, rfl, hrow, hb5⟩
      have HB5 : Hid (Below wz.heap.size wz w5) := Lib.hid (HBB.out.trans (hb5.mono HBB.out.size))
      have HRW := Lib.hid hrow
      clear hrow hb5
      go_wp2_with fail
      refine (HAC.out _ hkl _ _ _ HRW.out).mono ?_
      rintro e w6 ⟨rfl, hb6⟩
      have HB6 : Hid (Below wz.heap.size wz w6) := Lib.hid (HB5.out.trans (hb6.mono HB5.out.size))
      have HX6 : Hid (w6.heap[w.heap.size + 1 + 1]? = some (.cells Z 64 (0, 0))) := Lib.hid ((HB6.out.block _ (by omega)).trans HBX.out)
      have HSC : Hid ((ac (kerK r q)).size = 30) := Lib.hid (ac_size (by omega))
      have HOC := Lib.hid (ac_one (kerK r q))
      have HSZ1 := Lib.hid (size_arr1 _ HSC.out)
      have hKE := HG.out
      obtain ⟨KR, hKR⟩ : ∃ KR, KR = kerK r q := ⟨_, rfl⟩
      rw [← hKR] at hKE HSC HOC HSZ1 ⊢
      have HKE := Lib.hid hKE
      clear hb6 hKR hKE HG
      obtain ⟨C, hC⟩ : ∃ C, C = ac KR := ⟨_, rfl⟩
      rw [← hC] at HSC HOC HSZ1 ⊢
      have HC := Lib.hid hC
      clear hC
      go_wp2_with (with_reducible refine wpList_store_row rfl 64 (.tmp 6) (.tmp 36) rfl (w.heap.size + 1 + 1) C rfl rfl 64 Z HX6.out HSZ1.out ?sb HOC.out ?_)
      case sb => rw [HZS.out, HSC.out]
      refine bodyPost_ret (v := .agg C) (results_cell_row Try.results62 _ _ (w.heap.size + 1 + 1) 64 C (0, 0) _ rfl (setRow_heap _ _ Z _ _ _ HX6.out) Try.underlying64 rfl HSZ1.out) rfl ⟨by rw [HC.out, HKE.out, HTX.out, HTY.out], ?_⟩
      exact below_setRow (HBZ.out.trans (HB6.out.mono (by omega))) (by omega) _

end Go.Proofs.Ytoagpklippdlmaa

namespace Go.Proofs.Ytoagpklippdlmaa
open Go Go.RowKit

/-- The join of two congruences; nothing with an error. -/
noncomputable def joL (L : List MapN) (X Y : List Int) : List Int := if cgC L [X, Y] = 0 then kerG (elsK L).length (muK (fst0 L) (elsK L)) true (por (tL X) (tL Y)) else []

theorem joL_0 {L : List MapN} {X Y : List Int} (h : cgC L [X, Y] = 0) : joL L X Y = kerG (elsK L).length (muK (fst0 L) (elsK L)) true (por (tL X) (tL Y)) := by unfold joL; rw [if_pos h]
theorem joL_no {L : List MapN} {X Y : List Int} (h : cgC L [X, Y] ≠ 0) : joL L X Y = [] := by unfold joL; rw [if_neg h]

theorem rd_arr {w : World} {B g : Nat} {T : TypeId} {J : List Int} (hJ : J.length ≤ 30) (hB : B ≤ g) (h : w.heap[g]? = some (.cells (ac J) T (0, 0))) : Rd w B (some ⟨g, 0, none⟩) J :=
  ⟨by omega, Or.inr ⟨g, rfl, hB, (Array.getElem?_eq_some_iff.1 h).1, fun i hi => ⟨(Joins.cell_of_block h i).trans (ac_at J i (by omega)), Joins.unfrozen_of_block h i⟩⟩⟩

theorem Rd.low {w : World} {B B2 : Nat} {a : Option Addr} {J : List Int} (h : Rd w B a J) (hB : B2 ≤ B) : Rd w B2 a J := by
  refine ⟨h.1, ?_⟩
  rcases h.2 with h0 | ⟨g, ha, hg, rest⟩
  · exact Or.inl h0
  · exact Or.inr ⟨g, ha, Nat.le_trans hB hg, rest⟩

set_option maxRecDepth 100000 in
set_option maxHeartbeats 4000000 in
theorem sjnc_any (L : List MapN) (hl : L.length ≤ 1048576) (X : List Int) (hx : X.length ≤ 1048576) (_ : ∀ x ∈ X, (Lit.int .i64 x).wf = true) (Y : List Int) (hy : Y.length ≤ 1048576) (_ : ∀ x ∈ Y, (Lit.int .i64 x).wf = true) (a : Option Addr) (c : Nat) (_ : a = none → c = 0) (ax : Option Addr) (cx : Nat) (ay : Option Addr) (cy : Nat) (w : World) (hr : InRowM w a L) (hrx : InRow w ax X) (hry : InRow w ay Y) :
    Calls Try.prog 33 #[.slice a L.length c, .slice ax X.length cx, .slice ay Y.length cy] w (RetRow w.heap.size (joL L X Y) (cgC L [X, Y]) w) := by
  have HS := Lib.hid (sbo_any L hl X hx Y hy a c ax cx ay cy w hr hrx hry)
  have HRX := Lib.hid hrx
  have HRY := Lib.hid hry
  clear hr hrx hry
  go_enter Try.func33, Try.ntmps33
  go_wp2_with fail
  refine HS.out.mono ?_
  rintro e w1 ⟨hb, ⟨hc, rfl⟩ | ⟨hc, hmon, hle, hcl, a1, c1, rfl, htb⟩⟩
  · have HB := Lib.hid hb
    have HE := Lib.hid (joL_no hc)
    have hne : (cgC L [X, Y] != 0) = true := by simpa using hc
    clear hb hc
    generalize cgC L [X, Y] = C at *
    go_wp2_with fail
    go_ret2
    exact ⟨none, 0, by rw [HE.out]; rfl, ⟨by rw [HE.out]; simp, Or.inl HE.out⟩, HB.out⟩
  · have hlx : X.length = (elsK L).length := (hcl 0 (by simp)).1.1
    have hly : Y.length = (elsK L).length := (hcl 1 (by simp)).1.1
    have HB := Lib.hid hb
    have HX1 := Lib.hid (HRX.out.below hb)
    have HY1 := Lib.hid (HRY.out.below hb)
    have HE := Lib.hid (joL_0 hc)
    have HC0 := Lib.hid hc
    have hs1 := hb.size
    have HJO := Lib.hid fun aT ax ay cT cx cy K w ht hrx hry => sjoi_any (elsK L).length hle (mon_pos hmon) (muK (fst0 L) (elsK L)) (fun i j hi hj => muK_lt hmon i j hi hj) X Y hlx hly aT ax ay cT cx cy K w ht hrx hry
    have hkl := kerG_len (elsK L).length (muK (fst0 L) (elsK L)) true (por (tL X) (tL Y))
    have HTB := Lib.hid htb
    clear hb hc hcl hmon htb HS
    generalize kerG (elsK L).length (muK (fst0 L) (elsK L)) true (por (tL X) (tL Y)) = G at *
    generalize muK (fst0 L) (elsK L) = mu at *
    generalize (elsK L).length = m at *
    rw [hlx, hly]
    clear hlx hly
    go_wp2_with fail
    refine (HJO.out _ _ _ _ _ _ _ _ HTB.out HX1.out HY1.out).mono ?_
    rintro e w2 ⟨v, rfl, hown, hb2⟩
    obtain ⟨a2, c2, rfl, hrd⟩ := own_rd hown (by omega)
    have HB2 : Hid (Below w.heap.size w w2) := Lib.hid (HB.out.trans (hb2.mono hs1))
    have HRD := Lib.hid (hrd.low hs1)
    clear hown hrd hb2
    rw [hkl]
    go_wp2_with fail
    go_ret2
    exact ⟨a2, c2, by rw [HE.out, HC0.out, hkl]; rfl, by rw [HE.out]; exact HRD.out, HB2.out⟩

set_option maxRecDepth 100000 in
set_option maxHeartbeats 4000000 in
theorem ijnc_any (L : List MapN) (hl : L.length ≤ 1048576) (X : List Int) (_ : X.length ≤ 1048576) (hwx : ∀ x ∈ X, (Lit.int .i64 x).wf = true) (Y : List Int) (_ : Y.length ≤ 1048576) (hwy : ∀ x ∈ Y, (Lit.int .i64 x).wf = true) (a : Option Addr) (c : Nat) (hc0 : a = none → c = 0) (ax : Option Addr) (cx : Nat) (ay : Option Addr) (cy : Nat) (w : World) (hr : InRowM w a L) (hrx : InRow w ax X) (hry : InRow w ay Y) :
    Calls Try.prog 34 #[.slice a L.length c, .slice ax X.length cx, .slice ay Y.length cy] w (RetRow w.heap.size (joL L X Y) (cgC L [X, Y]) w) := by
  have hba : Below w.heap.size w (w.alloc (.cells #[.slice ax X.length cx, .slice ay Y.length cy] 26)) := (Below.refl _ _).alloc (Nat.le_refl _) _
  have HS := Lib.hid (icgf_any a c hc0 L hl [X, Y] (by simp) (two_j (Q := fun Z => ∀ x ∈ Z, (Lit.int .i64 x).wf = true) hwx hwy) (some ⟨w.heap.size, 0, none⟩) 2 _ (hr.below hba) (rows_two (c1 := cx) (c2 := cy) hrx hry))
  have HBA := Lib.hid hba
  clear hr hrx hry hba hc0
  go_enter Try.func34, Try.ntmps34
  go_wp2_with fail
  refine HS.out.mono ?_
  rintro e w1 ⟨hb, ⟨hc, rfl⟩ | ⟨hc, hmon, hle, hcl, a1, c1, a2, c2, rfl, htb, hia⟩⟩
  · have HB := Lib.hid (HBA.out.trans (hb.mono (by simp)))
    have HE := Lib.hid (joL_no hc)
    have hne : (cgC L [X, Y] != 0) = true := by simpa using hc
    clear hb hc
    generalize cgC L [X, Y] = C at *
    go_wp2_with fail
    go_ret2
    exact ⟨none, 0, by rw [HE.out]; rfl, ⟨by rw [HE.out]; simp, Or.inl HE.out⟩, HB.out⟩
  · obtain ⟨hclx, hcgx⟩ := hcl 0 (by simp)
    obtain ⟨hcly, hcgy⟩ := hcl 1 (by simp)
    rw [show [X, Y].getD 0 [] = X from rfl] at hclx hcgx
    rw [show [X, Y].getD 1 [] = Y from rfl] at hcly hcgy
    have HB := Lib.hid (HBA.out.trans (hb.mono (by simp)))
    have hs1 := HB.out.size
    have HE := Lib.hid (joL_0 hc)
    have HC0 := Lib.hid hc
    have hmu2 := fun i j hi hj => muK_lt hmon i j hi hj
    obtain ⟨b2, rfl, hb2, hrg⟩ := hia.resolve_left (by simp)
    have hrg0 := hrg 0 (by simp)
    have hrg1 := hrg 1 (by simp)
    rw [show [X, Y].getD 0 [] = X from rfl, Nat.zero_mul] at hrg0
    rw [show [X, Y].getD 1 [] = Y from rfl, Nat.one_mul] at hrg1
    have hcx30 : (acl X).length = 30 := acl_len (by rw [hclx.1]; exact hle)
    have hcy30 : (acl Y).length = 30 := acl_len (by rw [hcly.1]; exact hle)
    have hix : (Try.prog.info? 64).map (·.size) = some (acl X).length := by rw [hcx30]; exact size_arr
    have hiy : (Try.prog.info? 64).map (·.size) = some (acl Y).length := by rw [hcy30]; exact size_arr
    have hu := Try.underlying64
    have HJO := Lib.hid fun aT cT w => ijoi_any (elsK L).length hle (mon_pos hmon) (muK (fst0 L) (elsK L)) hmu2 X Y hclx hcly (cls_cgr hmu2 hcgx) (cls_cgr hmu2 hcgy) aT cT w
    have hkl := kerG_len (elsK L).length (muK (fst0 L) (elsK L)) true (por (tL X) (tL Y))
    have HCLI := Lib.hid fun (J : List Int) (hJ : J.length = (elsK L).length) a c w => clist_any (elsK L).length hle (ac J) (ac_size (by rw [hJ]; exact hle)) a c w
    have HRA : Hid (∀ (J : List Int) (z : World) (B g : Nat), J.length = (elsK L).length → B ≤ g → z.heap[g]? = some (.cells (ac J) 64 (0, 0)) → Rd z B (some ⟨g, 0, none⟩) J) := Lib.hid fun J z B g hJ hB h => rd_arr (by omega) hB h
    have HCX : Hid (ac X = (acl X).toArray) := Lib.hid rfl
    have HCY : Hid (ac Y = (acl Y).toArray) := Lib.hid rfl
    rw [HCX.out, HCY.out] at HJO
    clear hb hc hcl hmon htb HS hrg hia hclx hcly hcgx hcgy hmu2 HCX HCY hcx30 hcy30
    generalize kerG (elsK L).length (muK (fst0 L) (elsK L)) true (por (tL X) (tL Y)) = J at *
    generalize muK (fst0 L) (elsK L) = mu at *
    generalize (elsK L).length = m at *
    generalize acl X = xs at *
    generalize acl Y = ys at *
    have HCLJ := Lib.hid fun a c w => HCLI.out J hkl a c w
    have HRAJ := Lib.hid fun z B g hB h => HRA.out J z B g hkl hB h
    clear HCLI HRA
    obtain ⟨CJ, hCJ⟩ : ∃ CJ, CJ = ac J := ⟨_, rfl⟩
    rw [← hCJ] at HJO HCLJ HRAJ
    clear hCJ
    have HK : Hid (∀ z, Below w1.heap.size w1 z → (z.rangeAt b2 0 xs ∧ z.rangeAt b2 30 ys) ∧ Below w1.heap.size w1 z) := Lib.hid fun z hz => ⟨⟨rangeAt_below hrg0 hb2 hz, rangeAt_below hrg1 hb2 hz⟩, hz⟩
    clear hrg0 hrg1
    have hz02 : (0 : Int) < 2 := by decide
    have hz12 : (1 : Int) < 2 := by decide
    go_wp2_with fail
    refine wp_region_held_drew (S := fun w' => (w'.rangeAt b2 0 xs ∧ w'.rangeAt b2 30 ys) ∧ Below w1.heap.size w1 w') (by kernel_rfl) (HK.out _ (Below.refl _ _).drew) (fun hHeld => ?_)
    refine wpAnyH_take (i := 0) (v := .slice a1 m c1) rfl (by kernel_rfl) (by kernel_rfl) (by kernel_rfl) (fun _ _ _ h => h) (Or.inl ⟨by rfl, fun w hSw => by rfl⟩) hHeld ?_
    simp only [Act.put, List.setIfInBounds_toArray, List.set_cons_zero, List.set_cons_succ, List.getElem_cons_zero, List.getElem_toArray]
    refine wpAnyH_take (i := 1) (v := .slice a1 m c1) rfl (by kernel_rfl) (by kernel_rfl) (by kernel_rfl) (fun _ _ _ h => h) (Or.inl ⟨by rfl, fun w hSw => by rfl⟩) hHeld ?_
    simp only [Act.put, List.setIfInBounds_toArray, List.set_cons_zero, List.set_cons_succ, List.getElem_cons_zero, List.getElem_cons_succ, List.getElem_toArray]
    refine wpAnyH_take (i := 2) (v := .slice (some ⟨b2, 0, none⟩) 2 c2) rfl (by kernel_rfl) (by kernel_rfl) (by kernel_rfl) (fun _ _ _ h => h) (Or.inl ⟨by rfl, fun w hSw => by rfl⟩) hHeld ?_
    simp only [Act.put, List.setIfInBounds_toArray, List.set_cons_zero, List.set_cons_succ, List.getElem_cons_zero, List.getElem_cons_succ, List.getElem_toArray]
    refine wpAnyH_take (i := 3) (v := .pointer (some ⟨b2, 0, none⟩)) rfl (by kernel_rfl) (by kernel_rfl) (by kernel_rfl) (fun _ _ _ h => h) (Or.inl ⟨by rfl, fun w hSw => by go_simp⟩) hHeld ?_
    simp only [Act.put, List.setIfInBounds_toArray, List.set_cons_zero, List.set_cons_succ, List.getElem_cons_zero, List.getElem_cons_succ, List.getElem_toArray]
    refine wpAnyH_take (i := 4) (v := .agg xs.toArray) rfl (by kernel_rfl) (by kernel_rfl) (by kernel_rfl) (fun _ _ _ h => h) (yieldsIf_load_mid (by rfl) _ _ rfl _ _ rfl xs _ (fun w hSw => hSw.1.1) hu rfl hix) hHeld ?_
    simp only [Act.put, List.setIfInBounds_toArray, List.set_cons_zero, List.set_cons_succ, List.getElem_cons_zero, List.getElem_cons_succ, List.getElem_toArray]
    refine wpAnyH_take (i := 5) (v := .slice (some ⟨b2, 0, none⟩) 2 c2) rfl (by kernel_rfl) (by kernel_rfl) (by kernel_rfl) (fun _ _ _ h => h) (Or.inl ⟨by rfl, fun w hSw => by rfl⟩) hHeld ?_
    simp only [Act.put, List.setIfInBounds_toArray, List.set_cons_zero, List.set_cons_succ, List.getElem_cons_zero, List.getElem_cons_succ, List.getElem_toArray]
    refine wpAnyH_take (i := 6) (v := .pointer (some ⟨b2, 30, none⟩)) rfl (by kernel_rfl) (by kernel_rfl) (by kernel_rfl) (fun _ _ _ h => h) (Or.inl ⟨by rfl, fun w hSw => by go_simp⟩) hHeld ?_
    simp only [Act.put, List.setIfInBounds_toArray, List.set_cons_zero, List.set_cons_succ, List.getElem_cons_zero, List.getElem_cons_succ, List.getElem_toArray]
    refine wpAnyH_take (i := 7) (v := .agg ys.toArray) rfl (by kernel_rfl) (by kernel_rfl) (by kernel_rfl) (fun _ _ _ h => h) (yieldsIf_load_mid (by rfl) _ _ rfl _ _ rfl ys _ (fun w hSw => hSw.1.2) hu rfl hiy) hHeld ?_
    simp only [Act.put, List.setIfInBounds_toArray, List.set_cons_zero, List.set_cons_succ, List.getElem_cons_zero, List.getElem_cons_succ, List.getElem_toArray]
    refine wpAnyH_ready (rs := [8]) (by kernel_rfl) (by simp) ?_
    refine AllReadyH.cons rfl (fun K hK => ?_) AllReadyH.nil
    go_simp
    refine (HJO.out _ _ _).mono ?_
    rintro e w2 ⟨rfl, hb3⟩
    have HB2 : Hid (Below w1.heap.size w1 w2) := Lib.hid ((Below.refl w1.heap.size w1).drew.trans hb3)
    clear hb3
    refine hK.out _ _ (HK.out _ HB2.out) (fun hHeld => ?_)
    clear hK K
    (try simp only [Act.put, List.setIfInBounds_toArray, List.set_cons_zero, List.set_cons_succ, List.getElem_cons_zero, List.getElem_cons_succ, List.getElem_toArray])
    refine wpAnyH_ready (rs := [9]) (by kernel_rfl) (by simp) ?_
    refine AllReadyH.cons rfl (fun K hK => ?_) AllReadyH.nil
    go_simp
    refine (HCLJ.out _ _ _).mono ?_
    rintro e w3 ⟨rfl, hw3⟩
    have hs2 := HB2.out.size
    have HB3 : Hid (Below w1.heap.size w1 w3) := Lib.hid (by rw [hw3]; exact HB2.out.alloc hs2 _)
    have HRD : Hid (Rd w3 w.heap.size (some ⟨w2.heap.size, 0, none⟩) J) := Lib.hid (HRAJ.out w3 w.heap.size w2.heap.size (by omega) (by rw [hw3]; exact halloc_at _ _ _ rfl))
    clear hw3
    refine hK.out _ _ (HK.out _ HB3.out) (fun hHeld => ?_)
    clear hK K
    (try simp only [Act.put, List.setIfInBounds_toArray, List.set_cons_zero, List.set_cons_succ, List.getElem_cons_zero, List.getElem_cons_succ, List.getElem_toArray])
    refine wpAnyH_take (i := 10) (v := .slice (some ⟨w2.heap.size, 0, none⟩) m 30) rfl (by kernel_rfl) (by kernel_rfl) (by kernel_rfl) (fun _ _ _ h => h) (Or.inl ⟨by rfl, fun w hSw => by rfl⟩) hHeld ?_
    simp only [Act.put, List.setIfInBounds_toArray, List.set_cons_zero, List.set_cons_succ, List.getElem_cons_zero, List.getElem_cons_succ, List.getElem_toArray]
    refine wpAnyH_take (i := 11) (v := .int .i64 0) rfl (by kernel_rfl) (by kernel_rfl) (by kernel_rfl) (fun _ _ _ h => h) (Or.inl ⟨by rfl, fun w hSw => by rfl⟩) hHeld ?_
    simp only [Act.put, List.setIfInBounds_toArray, List.set_cons_zero, List.set_cons_succ, List.getElem_cons_zero, List.getElem_cons_succ, List.getElem_toArray]
    refine wpAnyH_done (by kernel_rfl) ?_ _
    go_wp2_with fail
    go_ret2
    exact ⟨_, 30, by rw [HE.out, HC0.out, hkl]; rfl, by rw [HE.out]; exact HRD.out, HB.out.trans (HB3.out.mono hs1)⟩

end Go.Proofs.Ytoagpklippdlmaa
