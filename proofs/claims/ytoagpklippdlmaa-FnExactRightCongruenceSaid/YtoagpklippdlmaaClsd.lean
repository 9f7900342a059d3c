/- The contract of spec.l06Closed: the classes of the finest (right) congruence that has given classes. The contract of spec.l06Closed, for congruences. -/
import Derived.Test.YtoagpklippdlmaaTb
import Derived.Test.YtoagpklippdlmaaNm
import Derived.Test.YtoagpklippdlmaaOwn
namespace Go.Proofs.Ytoagpklippdlmaa
open Go.RowKit

/-- The names that a world holds in block g. -/
def nmOf (w : World) (g : Nat) (i : Nat) : Int := match w.cell? ⟨g, i, none⟩ with
  | some (.int _ x) => x
  | _ => 0

theorem nmOf_at {w : World} {g m : Nat} {r : Nat → Int} (h : Nm w g m r) (i : Nat) (hi : i < m) : nmOf w g i = r i := by unfold nmOf; rw [h.cell hi]

theorem nmOf_rk {w : World} {g m : Nat} {r : Nat → Int} (h : Nm w g m r) : rkK (nmOf w g) m = rkK r m := rkK_congr0 m (nmOf_at h)

def tO : Value → Nat
  | .bool true => 1
  | _ => 0

/-- How far a pass over the table has come without a change. -/
def Dn (m : Nat) (mu : Nat → Nat → Nat) (s : Bool) (r : Nat → Int) (k q x : Nat) : Prop :=
  (∀ a b, a < k → b < a → r a = r b → Cl m mu s r a b) ∧ (∀ b, b < q → r k = r b → Cl m mu s r k b) ∧ (∀ c, c < x → r (mu k c) = r (mu q c) ∧ (s = true → r (mu c k) = r (mu c q)))

/-- What a pass has made of the names. -/
structure Ps (m : Nat) (mu : Nat → Nat → Nat) (s : Bool) (r0 : Nat → Int) (R1 : Nat) (r : Nat → Int) (mb : Bool) (k q x : Nat) : Prop where
  spr : Spr m mu s r0 r
  rk : rkK r m + mb.toNat ≤ R1
  dn : mb = false → Dn m mu s r k q x

theorem Ps.start {m : Nat} {mu : Nat → Nat → Nat} {s : Bool} {r0 r : Nat → Int} (h : Spr m mu s r0 r) : Ps m mu s r0 (rkK r m) r false 0 0 0 :=
  ⟨h, Nat.le_refl _, fun _ => ⟨fun a b h => by omega, fun b h => by omega, fun c h => by omega⟩⟩

theorem Ps.row {m : Nat} {mu : Nat → Nat → Nat} {s : Bool} {r0 : Nat → Int} {R1 : Nat} {r : Nat → Int} {mb : Bool} {k x : Nat} (h : Ps m mu s r0 R1 r mb k k x) : Ps m mu s r0 R1 r mb (k + 1) 0 0 :=
  ⟨h.spr, h.rk, fun e => ⟨fun a b ha hb he => by
    rcases Nat.lt_succ_iff_lt_or_eq.1 ha with c | c
    · exact (h.dn e).1 a b c hb he
    · subst c; exact (h.dn e).2.1 b hb he, fun b h => by omega, fun c h => by omega⟩⟩

theorem Ps.apart {m : Nat} {mu : Nat → Nat → Nat} {s : Bool} {r0 : Nat → Int} {R1 : Nat} {r : Nat → Int} {mb : Bool} {k q x : Nat} (h : Ps m mu s r0 R1 r mb k q x) (hne : r k ≠ r q) : Ps m mu s r0 R1 r mb k (q + 1) 0 :=
  ⟨h.spr, h.rk, fun e => ⟨(h.dn e).1, fun b hb he => by
    rcases Nat.lt_succ_iff_lt_or_eq.1 hb with c | c
    · exact (h.dn e).2.1 b c he
    · subst c; exact absurd he hne, fun c h => by omega⟩⟩

theorem Ps.zero {m : Nat} {mu : Nat → Nat → Nat} {s : Bool} {r0 : Nat → Int} {R1 : Nat} {r : Nat → Int} {mb : Bool} {k q x : Nat} (h : Ps m mu s r0 R1 r mb k q x) : Ps m mu s r0 R1 r mb k q 0 :=
  ⟨h.spr, h.rk, fun e => ⟨(h.dn e).1, (h.dn e).2.1, fun c h => by omega⟩⟩

theorem Ps.cols {m : Nat} {mu : Nat → Nat → Nat} {s : Bool} {r0 : Nat → Int} {R1 : Nat} {r : Nat → Int} {mb : Bool} {k q : Nat} (h : Ps m mu s r0 R1 r mb k q m) : Ps m mu s r0 R1 r mb k (q + 1) 0 :=
  ⟨h.spr, h.rk, fun e => ⟨(h.dn e).1, fun b hb he => by
    rcases Nat.lt_succ_iff_lt_or_eq.1 hb with c | c
    · exact (h.dn e).2.1 b c he
    · subst c; exact ⟨fun c hc => ((h.dn e).2.2 c hc).1, fun hs c hc => ((h.dn e).2.2 c hc).2 hs⟩, fun c h => by omega⟩⟩

theorem Ps.same {m : Nat} {mu : Nat → Nat → Nat} {s : Bool} {r0 : Nat → Int} {R1 : Nat} {r : Nat → Int} {mb : Bool} {k q x : Nat} (h : Ps m mu s r0 R1 r mb k q x) (h1 : r (mu k x) = r (mu q x)) (h2 : s = true → r (mu x k) = r (mu x q)) : Ps m mu s r0 R1 r mb k q (x + 1) :=
  ⟨h.spr, h.rk, fun e => ⟨(h.dn e).1, (h.dn e).2.1, fun c hc => by
    rcases Nat.lt_succ_iff_lt_or_eq.1 hc with d | d
    · exact (h.dn e).2.2 c d
    · subst d; exact ⟨h1, h2⟩⟩⟩

theorem Ps.rt {m : Nat} {mu : Nat → Nat → Nat} {s : Bool} {r0 : Nat → Int} {R1 : Nat} {r : Nat → Int} {mb : Bool} {k q x y : Nat} (hmu : ∀ a b, a < m → b < m → mu a b < m) (h : Ps m mu s r0 R1 r mb k q y) (hk : k < m) (hq : q < m) (hx : x < m) (he : r k = r q) (hne : r (mu k x) ≠ r (mu q x)) : Ps m mu s r0 R1 (rn r (r (mu q x)) (r (mu k x))) true k q (x + 1) := by
  refine ⟨h.spr.rt hmu hk hq hx he, ?_, fun e => by cases e⟩
  have h1 := rkK_rn r m (mu q x) (mu k x) (hmu _ _ hq hx) (hmu _ _ hk hx) (fun e => hne e.symm)
  have h2 := h.rk
  simp only [Bool.toNat_true]
  omega

theorem Ps.lf {m : Nat} {mu : Nat → Nat → Nat} {s : Bool} {r0 : Nat → Int} {R1 : Nat} {r : Nat → Int} {mb : Bool} {k q x y : Nat} (hmu : ∀ a b, a < m → b < m → mu a b < m) (h : Ps m mu s r0 R1 r mb k q y) (hs : s = true) (hk : k < m) (hq : q < m) (hx : x < m) (he : r k = r q) (hne : r (mu x k) ≠ r (mu x q)) : Ps m mu s r0 R1 (rn r (r (mu x q)) (r (mu x k))) true k q (x + 1) := by
  refine ⟨h.spr.lf hmu hs hk hq hx he, ?_, fun e => by cases e⟩
  have h1 := rkK_rn r m (mu x q) (mu x k) (hmu _ _ hx hq) (hmu _ _ hx hk) (fun e => hne e.symm)
  have h2 := h.rk
  simp only [Bool.toNat_true]
  omega

theorem rn_same {r : Nat → Int} {x y : Int} {i j : Nat} (h : r i = r j) : rn r x y i = rn r x y j := (rn_iff r x y i j).2 (Or.inl h)

set_option maxRecDepth 100000 in
set_option maxHeartbeats 8000000 in
theorem clsd_right (m : Nat) (hm : m ≤ 300) (hm1 : 1 ≤ m) (mu : Nat → Nat → Nat) (hmu : ∀ a b, a < m → b < m → mu a b < m) (L : List Int) (hL : L.length = m) (aT a : Option Addr) (cT c K : Nat) (w : World) (ht : Tb w K aT m mu) (hr : InRow w a L) :
    Calls Try.prog 55 #[.slice aT m cT, .slice a m c, .bool false] w (RetOwn w.heap.size (kerG m mu false (fun i j => tL L i = tL L j)) w) := by
  have hLn : L ≠ [] := fun e => by rw [e] at hL; simp at hL; omega
  obtain ⟨b0, o0, rfl, hlt0, hin0⟩ := hr.resolve_left hLn
  have HOW := Lib.hid (own_any b0 o0 m c L hL (by omega) w hlt0 (fun i hi => hin0 i (by omega)))
  have HT := Lib.hid ht
  have HMU := Lib.hid hmu
  have hKw := ht.hK
  obtain ⟨r0, hr0⟩ : ∃ r0, r0 = tL L := ⟨_, rfl⟩
  rw [← hr0]
  clear hr hlt0 hin0 ht hmu
  go_enter Try.func55, Try.ntmps55
  go_wp2_with fail
  refine HOW.out.mono ?_
  rintro e w1 ⟨v, rfl, hown, hb1⟩
  obtain ⟨g, cap, rfl, hg, hnm⟩ := own_nm hown hLn
  rw [hL, ← hr0] at hnm
  have HN1 := Lib.hid hnm
  have HB1 := Lib.hid hb1
  clear hown hb1 hnm HOW hLn hr0
  rw [hL]
  go_wp2_with fail
  go_loopw [7, 8, 9, 10] (fun mo _ _ _ wr => ∃ (mb : Bool) (r : Nat → Int), mo = .bool mb ∧ Nm wr g m r ∧ Below w.heap.size w wr ∧ Spr m mu false r0 r ∧ (mb = false → ∀ a b, a < m → b < a → r a = r b → Cl m mu false r a b)) (fun mo _ _ _ wr => tO mo * (rkK (nmOf wr g) m + 1))
  case atStart => exact ⟨true, r0, rfl, HN1.out, HB1.out, Spr.refl m mu false r0, fun e => by cases e⟩
  case round =>
    obtain ⟨mb, r1, rfl, hn1, hb1, hsp, hcl⟩ := hrel
    have HN2 := Lib.hid hn1
    have HB2 := Lib.hid hb1
    have HSP := Lib.hid hsp
    have HCL := Lib.hid hcl
    have hrkw := nmOf_rk hn1
    clear hn1 hb1 hsp hcl
    cases mb
    · have HG := Lib.hid (kerG_eq (spr_gen HSP.out (HCL.out rfl)))
      have hrow : ∃ M : List Int, M.length = m ∧ ∀ i, i < m → M.getD i 0 = r1 i := ⟨(List.range m).map r1, by simp, fun i hi => by simp [hi]⟩
      obtain ⟨M, hM, hMi⟩ := hrow
      have hnamed := fun w h => named_any M (by omega) (some ⟨g, 0, none⟩) cap w h
      have hke : kerK (tL M) m = kerK r1 m := kerK_congr0 m hMi
      rw [hM, hke, HG.out] at hnamed
      have HNA := Lib.hid hnamed
      have HIR := Lib.hid (HN2.out.inRow hM hMi)
      clear hnamed hke hrkw hM hMi
      go_wp2_with fail
      refine (HNA.out _ HIR.out).mono ?_
      rintro e w2 ⟨v, rfl, hown2, hb2⟩
      have hsz := HB2.out.size
      have HB3 : Hid (Below w.heap.size w w2) := Lib.hid (HB2.out.trans (hb2.mono hsz))
      have HO := Lib.hid (hown2.mono hsz)
      clear hown2 hb2
      go_wp2_with fail
      go_ret
      exact ⟨v, rfl, HO.out, HB3.out⟩
    · have HPS := Lib.hid (Ps.start HSP.out)
      obtain ⟨R1, hR1⟩ : ∃ R1, R1 = rkK r1 m := ⟨_, rfl⟩
      rw [← hR1] at HPS hrkw
      have HRW := Lib.hid hrkw
      obtain ⟨wo, hwo⟩ : ∃ wo, wo = wr := ⟨_, rfl⟩
      subst hwo
      clear hrkw hR1 HCL HSP
      go_wp2_with fail
      go_loopw [7, 8, 9, 10] (fun mo i _ _ wr => ∃ (mb : Bool) (r : Nat → Int) (k : Nat), k ≤ m ∧ mo = .bool mb ∧ i = .int .i64 k ∧ Nm wr g m r ∧ Below w.heap.size w wr ∧ Ps m mu false r0 R1 r mb k 0 0) (fun _ i _ _ _ => m - (intOf i).toNat)
      case atStart => exact ⟨false, r1, 0, by omega, rfl, rfl, HN2.out, HB2.out, HPS.out⟩
      case round =>
        obtain ⟨mb, r2, k, hk, rfl, rfl, hn3, hb3, hps⟩ := hrel
        have HN3 := Lib.hid hn3
        have HB3 := Lib.hid hb3
        have HP3 := Lib.hid hps
        clear hn3 hb3 hps
        by_cases hkm : k < m
        · have hkm' : (k : Int) < (m : Int) := by omega
          obtain ⟨wp, hwp⟩ : ∃ wp, wp = wr := ⟨_, rfl⟩
          subst hwp
          go_wp2_with fail
          go_loopw [7, 9, 10] (fun mo i _ wr => ∃ (mb : Bool) (r : Nat → Int) (q : Nat), q ≤ k ∧ mo = .bool mb ∧ i = .int .i64 q ∧ Nm wr g m r ∧ Below w.heap.size w wr ∧ Ps m mu false r0 R1 r mb k q 0) (fun _ i _ _ => k - (intOf i).toNat)
          case atStart => exact ⟨mb, r2, 0, by omega, rfl, rfl, HN3.out, HB3.out, HP3.out⟩
          case round =>
            obtain ⟨mb, r3, q, hq, rfl, rfl, hn4, hb4, hps⟩ := hrel
            have HN4 := Lib.hid hn4
            have HB4 := Lib.hid hb4
            have HP4 := Lib.hid hps
            clear hn4 hb4 hps
            by_cases hqk : q < k
            · have hqk' : (q : Int) < (k : Int) := by omega
              have hqm : q < m := by omega
              have hqm' : (q : Int) < (m : Int) := by omega
              have e1 := HN4.out.cell hkm
              have e2 := HN4.out.cell hqm
              by_cases hne : r3 k = r3 q
              · have hq0 : (r3 k != r3 q) = false := by simpa using hne
                have HE := Lib.hid hne
                clear hne
                obtain ⟨X, hX⟩ : ∃ X, X = r3 k := ⟨_, rfl⟩
                obtain ⟨Y, hY⟩ : ∃ Y, Y = r3 q := ⟨_, rfl⟩
                rw [← hX] at e1 hq0
                rw [← hY] at e2 hq0
                clear hX hY
                go_wp2_with fail
                go_quiet (fail)
                clear e1 e2 hq0
                go_wp2_with fail
                have HNZ := Lib.hid (HN4.out.below (below_drewN (Below.refl wr.heap.size wr) nq))
                have HBZ := Lib.hid (below_drewN HB4.out nq)
                clear HN4 HB4
                go_loopw [7, 10] (fun mo i wr => ∃ (mb : Bool) (r : Nat → Int) (x : Nat), x ≤ m ∧ mo = .bool mb ∧ i = .int .i64 x ∧ Nm wr g m r ∧ Below w.heap.size w wr ∧ Ps m mu false r0 R1 r mb k q x ∧ r k = r q) (fun _ i _ => m - (intOf i).toNat)
                case atStart => exact ⟨mb, r3, 0, by omega, rfl, rfl, HNZ.out, HBZ.out, HP4.out, HE.out⟩
                case round =>
                  obtain ⟨mb, r4, x, hx, rfl, rfl, hn5, hb5, hps, heq⟩ := hrel
                  have HN5 := Lib.hid hn5
                  have HB5 := Lib.hid hb5
                  have HP5 := Lib.hid hps
                  have HQ5 := Lib.hid heq
                  clear hn5 hb5 hps heq
                  by_cases hxm : x < m
                  · have hxm' : (x : Int) < (m : Int) := by omega
                    have htb := HT.out.below (HB5.out.mono hKw)
                    obtain ⟨bT, rfl, hbT, hrows⟩ := htb.rows
                    obtain ⟨ga, oa, ca, hga, hca, hcsa⟩ := hrows k hkm
                    obtain ⟨gb, ob, cb, hgb, hcb, hcsb⟩ := hrows q hqm
                    have x1 := hcsa x hxm
                    have x2 := hcsb x hxm
                    have hm1 := HMU.out k x hkm hxm
                    have hm2 := HMU.out q x hqm hxm
                    have hm1' : ((mu k x : Nat) : Int) < (m : Int) := by omega
                    have hm2' : ((mu q x : Nat) : Int) < (m : Int) := by omega
                    have HJ := Lib.hid fun (r : Nat → Int) (i j : Nat) (z : World) (h : Nm z g m r) => join_any m (by omega) r g w.heap.size cap (r i) (r j) z hg h
                    have HMA : Hid (∃ A B : Nat, A = mu k x ∧ B = mu q x) := Lib.hid ⟨_, _, rfl, rfl⟩
                    clear hrows hcsa hcsb htb
                    have f1 := HN5.out.cell hm1
                    have f2 := HN5.out.cell hm2
                    by_cases h1 : r4 (mu k x) = r4 (mu q x)
                    · have q1 : (r4 (mu k x) != r4 (mu q x)) = false := by simpa using h1
                      have H1 := Lib.hid h1
                      clear h1
                      obtain ⟨X, hX⟩ : ∃ X, X = r4 (mu k x) := ⟨_, rfl⟩
                      obtain ⟨Y, hY⟩ : ∃ Y, Y = r4 (mu q x) := ⟨_, rfl⟩
                      rw [← hX] at f1 q1
                      rw [← hY] at f2 q1
                      clear hX hY
                      go_wp2_with fail
                      go_quiet (fail)
                      obtain ⟨wq, hwq⟩ : ∃ wx, wx = wr.drewN nq := ⟨_, rfl⟩
                      rw [← hwq]
                      have HWQ : Hid (Below wr.heap.size wr wq) := Lib.hid (by rw [hwq]; exact below_drewN (Below.refl _ _) _)
                      have hKb : K ≤ wr.heap.size := Nat.le_trans hKw HB5.out.size
                      clear hwq
                      have hca := (HWQ.out.cell (p := ⟨bT, k, none⟩) (show bT < wr.heap.size by omega)).trans hca
                      have hcb := (HWQ.out.cell (p := ⟨bT, q, none⟩) (show bT < wr.heap.size by omega)).trans hcb
                      have x1 := (HWQ.out.cell (p := ⟨ga, oa + x, none⟩) (show ga < wr.heap.size by omega)).trans x1
                      have x2 := (HWQ.out.cell (p := ⟨gb, ob + x, none⟩) (show gb < wr.heap.size by omega)).trans x2
                      have f1 := (HWQ.out.cell (p := ⟨g, (mu k x), none⟩) HN5.out.lt).trans f1
                      have f2 := (HWQ.out.cell (p := ⟨g, (mu q x), none⟩) HN5.out.lt).trans f2
                      have HNQ := Lib.hid (HN5.out.below HWQ.out)
                      have HBQ : Hid (Below w.heap.size w wq) := Lib.hid (HB5.out.trans (HWQ.out.mono HB5.out.size))
                      clear HN5 HB5
                      have HN5 := HNQ
                      have HB5 := HBQ
                      clear HNQ HBQ HWQ f1 f2 hKb

                      go_wp2_with fail
                      go_quiet (fail)

                      go_wp2_with fail
                      go_roundw
                      case rel => exact ⟨mb, r4, x + 1, by omega, rfl, by go_num, HN5.out.below (below_drewN (Below.refl _ _) _), below_drewN HB5.out _, HP5.out.same H1.out (fun e => by cases e), HQ5.out⟩
                      case measure => simp [intOf]; omega
                    · have q1 : (r4 (mu k x) != r4 (mu q x)) = true := by simpa using h1
                      have HP6 := Lib.hid (HP5.out.rt HMU.out hkm hqm hxm HQ5.out h1)
                      have HQ6 := Lib.hid (rn_same (x := r4 (mu q x)) (y := r4 (mu k x)) HQ5.out)
                      have HJ6 := Lib.hid (HJ.out r4 (mu q x) (mu k x))
                      have hr5 : ∃ r5, r5 = rn r4 (r4 (mu q x)) (r4 (mu k x)) := ⟨_, rfl⟩
                      obtain ⟨r5, hr5⟩ := hr5
                      rw [← hr5] at HP6 HQ6 HJ6
                      clear h1 hr5
                      obtain ⟨X, hX⟩ : ∃ X, X = r4 (mu k x) := ⟨_, rfl⟩
                      obtain ⟨Y, hY⟩ : ∃ Y, Y = r4 (mu q x) := ⟨_, rfl⟩
                      rw [← hX] at f1 q1 HJ6
                      rw [← hY] at f2 q1 HJ6
                      clear hX hY
                      go_wp2_with fail
                      go_quiet (fail)
                      obtain ⟨wq, hwq⟩ : ∃ wx, wx = wr.drewN nq := ⟨_, rfl⟩
                      rw [← hwq]
                      have HWQ : Hid (Below wr.heap.size wr wq) := Lib.hid (by rw [hwq]; exact below_drewN (Below.refl _ _) _)
                      have hKb : K ≤ wr.heap.size := Nat.le_trans hKw HB5.out.size
                      clear hwq
                      have hca := (HWQ.out.cell (p := ⟨bT, k, none⟩) (show bT < wr.heap.size by omega)).trans hca
                      have hcb := (HWQ.out.cell (p := ⟨bT, q, none⟩) (show bT < wr.heap.size by omega)).trans hcb
                      have x1 := (HWQ.out.cell (p := ⟨ga, oa + x, none⟩) (show ga < wr.heap.size by omega)).trans x1
                      have x2 := (HWQ.out.cell (p := ⟨gb, ob + x, none⟩) (show gb < wr.heap.size by omega)).trans x2
                      have f1 := (HWQ.out.cell (p := ⟨g, (mu k x), none⟩) HN5.out.lt).trans f1
                      have f2 := (HWQ.out.cell (p := ⟨g, (mu q x), none⟩) HN5.out.lt).trans f2
                      have HNQ := Lib.hid (HN5.out.below HWQ.out)
                      have HBQ : Hid (Below w.heap.size w wq) := Lib.hid (HB5.out.trans (HWQ.out.mono HB5.out.size))
                      clear HN5 HB5
                      have HN5 := HNQ
                      have HB5 := HBQ
                      clear HNQ HBQ HWQ
                      go_wp2_with fail
                      go_still_tail 21, (by kernel_rfl)
                      go_wp2_with fail
                      refine (HJ6.out _ ?nm).mono ?_
                      case nm => first | exact HN5.out.below (Below.refl _ _).drew | exact HN5.out.below (below_drewN (Below.refl _ _) _)
                      rintro e w6 ⟨rfl, hn6, hb6⟩
                      have HN6 := Lib.hid hn6
                      have HBW : Hid (Below w.heap.size wq w6) := Lib.hid (by first | exact (Below.refl _ _).drew.trans hb6 | exact (below_drewN (Below.refl _ _) _).trans hb6)
                      have HB6 : Hid (Below w.heap.size w w6) := Lib.hid (HB5.out.trans HBW.out)
                      clear hn6 hb6 f1 f2 q1

                      go_wp2_with fail
                      go_quiet (fail)

                      go_wp2_with fail
                      go_roundw
                      case rel => exact ⟨true, r5, x + 1, by omega, rfl, by go_num, HN6.out.below (below_drewN (Below.refl _ _) _), below_drewN HB6.out _, HP6.out, HQ6.out⟩
                      case measure => simp [intOf]; omega
                  · obtain rfl : x = m := by omega
                    go_wp2_with fail
                    go_roundw
                    case rel => exact ⟨mb, r4, q + 1, by omega, rfl, by go_num, HN5.out, HB5.out, HP5.out.cols⟩
                    case measure => simp [intOf]; omega
              · have hq0 : (r3 k != r3 q) = true := by simpa using hne
                have HE := Lib.hid hne
                clear hne
                obtain ⟨X, hX⟩ : ∃ X, X = r3 k := ⟨_, rfl⟩
                obtain ⟨Y, hY⟩ : ∃ Y, Y = r3 q := ⟨_, rfl⟩
                rw [← hX] at e1 hq0
                rw [← hY] at e2 hq0
                clear hX hY
                go_wp2_with fail
                go_quiet (fail)
                go_wp2_with fail
                go_roundw
                case rel => exact ⟨mb, r3, q + 1, by omega, rfl, by go_num, HN4.out.below (below_drewN (Below.refl _ _) _), below_drewN HB4.out _, HP4.out.apart HE.out⟩
                case measure => simp [intOf]; omega
            · obtain rfl : q = k := by omega
              go_wp2_with fail
              go_roundw
              case rel => exact ⟨mb, r3, q + 1, by omega, rfl, by go_num, HN4.out, HB4.out, HP4.out.row⟩
              case measure => simp [intOf]; omega
        · obtain rfl : k = m := by omega
          go_wp2_with fail
          go_roundw
          case rel => exact ⟨mb, r2, rfl, HN3.out, HB3.out, HP3.out.spr, fun e => (HP3.out.dn e).1⟩
          case measure =>
            have h1 := nmOf_rk HN3.out
            have h2 := HP3.out.rk
            have h3 := HRW.out
            cases mb
            · simp [tO]
            · simp [tO] at *
              omega

end Go.Proofs.Ytoagpklippdlmaa

namespace Go.Proofs.Ytoagpklippdlmaa
open Go.RowKit

set_option maxRecDepth 100000 in
set_option maxHeartbeats 8000000 in
theorem clsd_both (m : Nat) (hm : m ≤ 300) (hm1 : 1 ≤ m) (mu : Nat → Nat → Nat) (hmu : ∀ a b, a < m → b < m → mu a b < m) (L : List Int) (hL : L.length = m) (aT a : Option Addr) (cT c K : Nat) (w : World) (ht : Tb w K aT m mu) (hr : InRow w a L) :
    Calls Try.prog 55 #[.slice aT m cT, .slice a m c, .bool true] w (RetOwn w.heap.size (kerG m mu true (fun i j => tL L i = tL L j)) w) := by
  have hLn : L ≠ [] := fun e => by rw [e] at hL; simp at hL; omega
  obtain ⟨b0, o0, rfl, hlt0, hin0⟩ := hr.resolve_left hLn
  have HOW := Lib.hid (own_any b0 o0 m c L hL (by omega) w hlt0 (fun i hi => hin0 i (by omega)))
  have HT := Lib.hid ht
  have HMU := Lib.hid hmu
  have hKw := ht.hK
  obtain ⟨r0, hr0⟩ : ∃ r0, r0 = tL L := ⟨_, rfl⟩
  rw [← hr0]
  clear hr hlt0 hin0 ht hmu
  go_enter Try.func55, Try.ntmps55
  go_wp2_with fail
  refine HOW.out.mono ?_
  rintro e w1 ⟨v, rfl, hown, hb1⟩
  obtain ⟨g, cap, rfl, hg, hnm⟩ := own_nm hown hLn
  rw [hL, ← hr0] at hnm
  have HN1 := Lib.hid hnm
  have HB1 := Lib.hid hb1
  clear hown hb1 hnm HOW hLn hr0
  rw [hL]
  go_wp2_with fail
  go_loopw [7, 8, 9, 10] (fun mo _ _ _ wr => ∃ (mb : Bool) (r : Nat → Int), mo = .bool mb ∧ Nm wr g m r ∧ Below w.heap.size w wr ∧ Spr m mu true r0 r ∧ (mb = false → ∀ a b, a < m → b < a → r a = r b → Cl m mu true r a b)) (fun mo _ _ _ wr => tO mo * (rkK (nmOf wr g) m + 1))
  case atStart => exact ⟨true, r0, rfl, HN1.out, HB1.out, Spr.refl m mu true r0, fun e => by cases e⟩
  case round =>
    obtain ⟨mb, r1, rfl, hn1, hb1, hsp, hcl⟩ := hrel
    have HN2 := Lib.hid hn1
    have HB2 := Lib.hid hb1
    have HSP := Lib.hid hsp
    have HCL := Lib.hid hcl
    have hrkw := nmOf_rk hn1
    clear hn1 hb1 hsp hcl
    cases mb
    · have HG := Lib.hid (kerG_eq (spr_gen HSP.out (HCL.out rfl)))
      have hrow : ∃ M : List Int, M.length = m ∧ ∀ i, i < m → M.getD i 0 = r1 i := ⟨(List.range m).map r1, by simp, fun i hi => by simp [hi]⟩
      obtain ⟨M, hM, hMi⟩ := hrow
      have hnamed := fun w h => named_any M (by omega) (some ⟨g, 0, none⟩) cap w h
      have hke : kerK (tL M) m = kerK r1 m := kerK_congr0 m hMi
      rw [hM, hke, HG.out] at hnamed
      have HNA := Lib.hid hnamed
      have HIR := Lib.hid (HN2.out.inRow hM hMi)
      clear hnamed hke hrkw hM hMi
      go_wp2_with fail
      refine (HNA.out _ HIR.out).mono ?_
      rintro e w2 ⟨v, rfl, hown2, hb2⟩
      have hsz := HB2.out.size
      have HB3 : Hid (Below w.heap.size w w2) := Lib.hid (HB2.out.trans (hb2.mono hsz))
      have HO := Lib.hid (hown2.mono hsz)
      clear hown2 hb2
      go_wp2_with fail
      go_ret
      exact ⟨v, rfl, HO.out, HB3.out⟩
    · have HPS := Lib.hid (Ps.start HSP.out)
      obtain ⟨R1, hR1⟩ : ∃ R1, R1 = rkK r1 m := ⟨_, rfl⟩
      rw [← hR1] at HPS hrkw
      have HRW := Lib.hid hrkw
      obtain ⟨wo, hwo⟩ : ∃ wo, wo = wr := ⟨_, rfl⟩
      subst hwo
      clear hrkw hR1 HCL HSP
      go_wp2_with fail
      go_loopw [7, 8, 9, 10] (fun mo i _ _ wr => ∃ (mb : Bool) (r : Nat → Int) (k : Nat), k ≤ m ∧ mo = .bool mb ∧ i = .int .i64 k ∧ Nm wr g m r ∧ Below w.heap.size w wr ∧ Ps m mu true r0 R1 r mb k 0 0) (fun _ i _ _ _ => m - (intOf i).toNat)
      case atStart => exact ⟨false, r1, 0, by omega, rfl, rfl, HN2.out, HB2.out, HPS.out⟩
      case round =>
        obtain ⟨mb, r2, k, hk, rfl, rfl, hn3, hb3, hps⟩ := hrel
        have HN3 := Lib.hid hn3
        have HB3 := Lib.hid hb3
        have HP3 := Lib.hid hps
        clear hn3 hb3 hps
        by_cases hkm : k < m
        · have hkm' : (k : Int) < (m : Int) := by omega
          obtain ⟨wp, hwp⟩ : ∃ wp, wp = wr := ⟨_, rfl⟩
          subst hwp
          go_wp2_with fail
          go_loopw [7, 9, 10] (fun mo i _ wr => ∃ (mb : Bool) (r : Nat → Int) (q : Nat), q ≤ k ∧ mo = .bool mb ∧ i = .int .i64 q ∧ Nm wr g m r ∧ Below w.heap.size w wr ∧ Ps m mu true r0 R1 r mb k q 0) (fun _ i _ _ => k - (intOf i).toNat)
          case atStart => exact ⟨mb, r2, 0, by omega, rfl, rfl, HN3.out, HB3.out, HP3.out⟩
          case round =>
            obtain ⟨mb, r3, q, hq, rfl, rfl, hn4, hb4, hps⟩ := hrel
            have HN4 := Lib.hid hn4
            have HB4 := Lib.hid hb4
            have HP4 := Lib.hid hps
            clear hn4 hb4 hps
            by_cases hqk : q < k
            · have hqk' : (q : Int) < (k : Int) := by omega
              have hqm : q < m := by omega
              have hqm' : (q : Int) < (m : Int) := by omega
              have e1 := HN4.out.cell hkm
              have e2 := HN4.out.cell hqm
              by_cases hne : r3 k = r3 q
              · have hq0 : (r3 k != r3 q) = false := by simpa using hne
                have HE := Lib.hid hne
                clear hne
                obtain ⟨X, hX⟩ : ∃ X, X = r3 k := ⟨_, rfl⟩
                obtain ⟨Y, hY⟩ : ∃ Y, Y = r3 q := ⟨_, rfl⟩
                rw [← hX] at e1 hq0
                rw [← hY] at e2 hq0
                clear hX hY
                go_wp2_with fail
                go_quiet (fail)
                clear e1 e2 hq0
                go_wp2_with fail
                have HNZ := Lib.hid (HN4.out.below (below_drewN (Below.refl wr.heap.size wr) nq))
                have HBZ := Lib.hid (below_drewN HB4.out nq)
                clear HN4 HB4
                go_loopw [7, 10] (fun mo i wr => ∃ (mb : Bool) (r : Nat → Int) (x : Nat), x ≤ m ∧ mo = .bool mb ∧ i = .int .i64 x ∧ Nm wr g m r ∧ Below w.heap.size w wr ∧ Ps m mu true r0 R1 r mb k q x ∧ r k = r q) (fun _ i _ => m - (intOf i).toNat)
                case atStart => exact ⟨mb, r3, 0, by omega, rfl, rfl, HNZ.out, HBZ.out, HP4.out, HE.out⟩
                case round =>
                  obtain ⟨mb, r4, x, hx, rfl, rfl, hn5, hb5, hps, heq⟩ := hrel
                  have HN5 := Lib.hid hn5
                  have HB5 := Lib.hid hb5
                  have HP5 := Lib.hid hps
                  have HQ5 := Lib.hid heq
                  clear hn5 hb5 hps heq
                  by_cases hxm : x < m
                  · have hxm' : (x : Int) < (m : Int) := by omega
                    have htb := HT.out.below (HB5.out.mono hKw)
                    obtain ⟨bT, rfl, hbT, hrows⟩ := htb.rows
                    obtain ⟨ga, oa, ca, hga, hca, hcsa⟩ := hrows k hkm
                    obtain ⟨gb, ob, cb, hgb, hcb, hcsb⟩ := hrows q hqm
                    have x1 := hcsa x hxm
                    have x2 := hcsb x hxm
                    obtain ⟨gx, ox, cx, hgx, hcx, hcsx⟩ := hrows x hxm
                    have x3 := hcsx k hkm
                    have x4 := hcsx q hqm
                    have hm3 := HMU.out x k hxm hkm
                    have hm4 := HMU.out x q hxm hqm
                    have hm3' : ((mu x k : Nat) : Int) < (m : Int) := by omega
                    have hm4' : ((mu x q : Nat) : Int) < (m : Int) := by omega
                    have hm1 := HMU.out k x hkm hxm
                    have hm2 := HMU.out q x hqm hxm
                    have hm1' : ((mu k x : Nat) : Int) < (m : Int) := by omega
                    have hm2' : ((mu q x : Nat) : Int) < (m : Int) := by omega
                    have HJ := Lib.hid fun (r : Nat → Int) (i j : Nat) (z : World) (h : Nm z g m r) => join_any m (by omega) r g w.heap.size cap (r i) (r j) z hg h
                    have HMA : Hid (∃ A B : Nat, A = mu k x ∧ B = mu q x) := Lib.hid ⟨_, _, rfl, rfl⟩
                    clear hrows hcsa hcsb hcsx htb
                    have f1 := HN5.out.cell hm1
                    have f2 := HN5.out.cell hm2
                    by_cases h1 : r4 (mu k x) = r4 (mu q x)
                    · have q1 : (r4 (mu k x) != r4 (mu q x)) = false := by simpa using h1
                      have H1 := Lib.hid h1
                      clear h1
                      obtain ⟨X, hX⟩ : ∃ X, X = r4 (mu k x) := ⟨_, rfl⟩
                      obtain ⟨Y, hY⟩ : ∃ Y, Y = r4 (mu q x) := ⟨_, rfl⟩
                      rw [← hX] at f1 q1
                      rw [← hY] at f2 q1
                      clear hX hY
                      go_wp2_with fail
                      go_quiet (fail)
                      obtain ⟨wq, hwq⟩ : ∃ wx, wx = wr.drewN nq := ⟨_, rfl⟩
                      rw [← hwq]
                      have HWQ : Hid (Below wr.heap.size wr wq) := Lib.hid (by rw [hwq]; exact below_drewN (Below.refl _ _) _)
                      have hKb : K ≤ wr.heap.size := Nat.le_trans hKw HB5.out.size
                      clear hwq
                      have hca := (HWQ.out.cell (p := ⟨bT, k, none⟩) (show bT < wr.heap.size by omega)).trans hca
                      have hcb := (HWQ.out.cell (p := ⟨bT, q, none⟩) (show bT < wr.heap.size by omega)).trans hcb
                      have x1 := (HWQ.out.cell (p := ⟨ga, oa + x, none⟩) (show ga < wr.heap.size by omega)).trans x1
                      have x2 := (HWQ.out.cell (p := ⟨gb, ob + x, none⟩) (show gb < wr.heap.size by omega)).trans x2
                      have hcx := (HWQ.out.cell (p := ⟨bT, x, none⟩) (show bT < wr.heap.size by omega)).trans hcx
                      have x3 := (HWQ.out.cell (p := ⟨gx, ox + k, none⟩) (show gx < wr.heap.size by omega)).trans x3
                      have x4 := (HWQ.out.cell (p := ⟨gx, ox + q, none⟩) (show gx < wr.heap.size by omega)).trans x4
                      have f1 := (HWQ.out.cell (p := ⟨g, (mu k x), none⟩) HN5.out.lt).trans f1
                      have f2 := (HWQ.out.cell (p := ⟨g, (mu q x), none⟩) HN5.out.lt).trans f2
                      have HNQ := Lib.hid (HN5.out.below HWQ.out)
                      have HBQ : Hid (Below w.heap.size w wq) := Lib.hid (HB5.out.trans (HWQ.out.mono HB5.out.size))
                      clear HN5 HB5
                      have HN5 := HNQ
                      have HB5 := HBQ
                      clear HNQ HBQ HWQ f1 f2 hKb

                      have f3 := HN5.out.cell hm3
                      have f4 := HN5.out.cell hm4
                      by_cases h2 : r4 (mu x k) = r4 (mu x q)
                      · have q2 : (r4 (mu x k) != r4 (mu x q)) = false := by simpa using h2
                        have H2 := Lib.hid h2
                        clear h2
                        obtain ⟨U, hU⟩ : ∃ U, U = r4 (mu x k) := ⟨_, rfl⟩
                        obtain ⟨V, hV⟩ : ∃ V, V = r4 (mu x q) := ⟨_, rfl⟩
                        rw [← hU] at f3 q2
                        rw [← hV] at f4 q2
                        clear hU hV
                        go_wp2_with fail
                        go_quiet (fail)

                        go_wp2_with fail
                        go_roundw
                        case rel => exact ⟨mb, r4, x + 1, by omega, rfl, by go_num, HN5.out.below (below_drewN (Below.refl _ _) _), below_drewN HB5.out _, HP5.out.same H1.out (fun _ => H2.out), HQ5.out⟩
                        case measure => simp [intOf]; omega
                      · have q2 : (r4 (mu x k) != r4 (mu x q)) = true := by simpa using h2
                        have HP7 := Lib.hid (HP5.out.lf HMU.out rfl hkm hqm hxm HQ5.out h2)
                        have HQ7 := Lib.hid (rn_same (x := r4 (mu x q)) (y := r4 (mu x k)) HQ5.out)
                        have HJ7 := Lib.hid (HJ.out r4 (mu x q) (mu x k))
                        have hr7 : ∃ r7, r7 = rn r4 (r4 (mu x q)) (r4 (mu x k)) := ⟨_, rfl⟩
                        obtain ⟨r7, hr7⟩ := hr7
                        rw [← hr7] at HP7 HQ7 HJ7
                        clear h2 hr7
                        obtain ⟨U, hU⟩ : ∃ U, U = r4 (mu x k) := ⟨_, rfl⟩
                        obtain ⟨V, hV⟩ : ∃ V, V = r4 (mu x q) := ⟨_, rfl⟩
                        rw [← hU] at f3 q2 HJ7
                        rw [← hV] at f4 q2 HJ7
                        clear hU hV
                        go_wp2_with fail
                        go_quiet (fail)
                        obtain ⟨wv, hwq⟩ : ∃ wx, wx = wq.drewN nq := ⟨_, rfl⟩
                        rw [← hwq]
                        have HWV : Hid (Below wq.heap.size wq wv) := Lib.hid (by rw [hwq]; exact below_drewN (Below.refl _ _) _)
                        have hKb : K ≤ wq.heap.size := Nat.le_trans hKw HB5.out.size
                        clear hwq
                        have hcx := (HWV.out.cell (p := ⟨bT, x, none⟩) (show bT < wq.heap.size by omega)).trans hcx
                        have x3 := (HWV.out.cell (p := ⟨gx, ox + k, none⟩) (show gx < wq.heap.size by omega)).trans x3
                        have x4 := (HWV.out.cell (p := ⟨gx, ox + q, none⟩) (show gx < wq.heap.size by omega)).trans x4
                        have f3 := (HWV.out.cell (p := ⟨g, (mu x k), none⟩) HN5.out.lt).trans f3
                        have f4 := (HWV.out.cell (p := ⟨g, (mu x q), none⟩) HN5.out.lt).trans f4
                        have HNQ := Lib.hid (HN5.out.below HWV.out)
                        have HBQ : Hid (Below w.heap.size w wv) := Lib.hid (HB5.out.trans (HWV.out.mono HB5.out.size))
                        clear HN5 HB5
                        have HN5 := HNQ
                        have HB5 := HBQ
                        clear HNQ HBQ HWV
                        go_wp2_with fail
                        go_still_tail 21, (by kernel_rfl)
                        go_wp2_with fail
                        refine (HJ7.out _ ?nm).mono ?_
                        case nm => first | exact HN5.out.below (Below.refl _ _).drew | exact HN5.out.below (below_drewN (Below.refl _ _) _)
                        rintro e w7 ⟨rfl, hn7, hb7⟩
                        have HN7 := Lib.hid hn7
                        have HB7 : Hid (Below w.heap.size w w7) := Lib.hid (HB5.out.trans (by first | exact (Below.refl _ _).drew.trans hb7 | exact (below_drewN (Below.refl _ _) _).trans hb7))
                        clear hn7 hb7 f3 f4 q2

                        go_wp2_with fail
                        go_roundw
                        case rel => exact ⟨true, r7, x + 1, by omega, rfl, by go_num, HN7.out, HB7.out, HP7.out, HQ7.out⟩
                        case measure => simp [intOf]; omega
                    · have q1 : (r4 (mu k x) != r4 (mu q x)) = true := by simpa using h1
                      have HP6 := Lib.hid (HP5.out.rt HMU.out hkm hqm hxm HQ5.out h1)
                      have HQ6 := Lib.hid (rn_same (x := r4 (mu q x)) (y := r4 (mu k x)) HQ5.out)
                      have HJ6 := Lib.hid (HJ.out r4 (mu q x) (mu k x))
                      have hr5 : ∃ r5, r5 = rn r4 (r4 (mu q x)) (r4 (mu k x)) := ⟨_, rfl⟩
                      obtain ⟨r5, hr5⟩ := hr5
                      rw [← hr5] at HP6 HQ6 HJ6
                      clear h1 hr5
                      obtain ⟨X, hX⟩ : ∃ X, X = r4 (mu k x) := ⟨_, rfl⟩
                      obtain ⟨Y, hY⟩ : ∃ Y, Y = r4 (mu q x) := ⟨_, rfl⟩
                      rw [← hX] at f1 q1 HJ6
                      rw [← hY] at f2 q1 HJ6
                      clear hX hY
                      go_wp2_with fail
                      go_quiet (fail)
                      obtain ⟨wq, hwq⟩ : ∃ wx, wx = wr.drewN nq := ⟨_, rfl⟩
                      rw [← hwq]
                      have HWQ : Hid (Below wr.heap.size wr wq) := Lib.hid (by rw [hwq]; exact below_drewN (Below.refl _ _) _)
                      have hKb : K ≤ wr.heap.size := Nat.le_trans hKw HB5.out.size
                      clear hwq
                      have hca := (HWQ.out.cell (p := ⟨bT, k, none⟩) (show bT < wr.heap.size by omega)).trans hca
                      have hcb := (HWQ.out.cell (p := ⟨bT, q, none⟩) (show bT < wr.heap.size by omega)).trans hcb
                      have x1 := (HWQ.out.cell (p := ⟨ga, oa + x, none⟩) (show ga < wr.heap.size by omega)).trans x1
                      have x2 := (HWQ.out.cell (p := ⟨gb, ob + x, none⟩) (show gb < wr.heap.size by omega)).trans x2
                      have hcx := (HWQ.out.cell (p := ⟨bT, x, none⟩) (show bT < wr.heap.size by omega)).trans hcx
                      have x3 := (HWQ.out.cell (p := ⟨gx, ox + k, none⟩) (show gx < wr.heap.size by omega)).trans x3
                      have x4 := (HWQ.out.cell (p := ⟨gx, ox + q, none⟩) (show gx < wr.heap.size by omega)).trans x4
                      have f1 := (HWQ.out.cell (p := ⟨g, (mu k x), none⟩) HN5.out.lt).trans f1
                      have f2 := (HWQ.out.cell (p := ⟨g, (mu q x), none⟩) HN5.out.lt).trans f2
                      have HNQ := Lib.hid (HN5.out.below HWQ.out)
                      have HBQ : Hid (Below w.heap.size w wq) := Lib.hid (HB5.out.trans (HWQ.out.mono HB5.out.size))
                      clear HN5 HB5
                      have HN5 := HNQ
                      have HB5 := HBQ
                      clear HNQ HBQ HWQ
                      go_wp2_with fail
                      go_still_tail 21, (by kernel_rfl)
                      go_wp2_with fail
                      refine (HJ6.out _ ?nm).mono ?_
                      case nm => first | exact HN5.out.below (Below.refl _ _).drew | exact HN5.out.below (below_drewN (Below.refl _ _) _)
                      rintro e w6 ⟨rfl, hn6, hb6⟩
                      have HN6 := Lib.hid hn6
                      have HBW : Hid (Below w.heap.size wq w6) := Lib.hid (by first | exact (Below.refl _ _).drew.trans hb6 | exact (below_drewN (Below.refl _ _) _).trans hb6)
                      have HB6 : Hid (Below w.heap.size w w6) := Lib.hid (HB5.out.trans HBW.out)
                      clear hn6 hb6 f1 f2 q1

                      have y3 := (HBW.out.cell (p := ⟨bT, x, none⟩) (show bT < w.heap.size by omega)).trans hcx
                      have y4 := (HBW.out.cell (p := ⟨gx, ox + k, none⟩) (show gx < w.heap.size by omega)).trans x3
                      have y5 := (HBW.out.cell (p := ⟨gx, ox + q, none⟩) (show gx < w.heap.size by omega)).trans x4
                      clear hcx x3 x4 hca hcb x1 x2
                      have hca := y3
                      have x1 := y4
                      have x2 := y5
                      clear y3 y4 y5
                      have f3 := HN6.out.cell hm3
                      have f4 := HN6.out.cell hm4
                      by_cases h2 : r5 (mu x k) = r5 (mu x q)
                      · have q2 : (r5 (mu x k) != r5 (mu x q)) = false := by simpa using h2
                        clear h2
                        obtain ⟨U, hU⟩ : ∃ U, U = r5 (mu x k) := ⟨_, rfl⟩
                        obtain ⟨V, hV⟩ : ∃ V, V = r5 (mu x q) := ⟨_, rfl⟩
                        rw [← hU] at f3 q2
                        rw [← hV] at f4 q2
                        clear hU hV
                        go_wp2_with fail
                        go_quiet (fail)

                        go_wp2_with fail
                        go_roundw
                        case rel => exact ⟨true, r5, x + 1, by omega, rfl, by go_num, HN6.out.below (below_drewN (Below.refl _ _) _), below_drewN HB6.out _, HP6.out, HQ6.out⟩
                        case measure => simp [intOf]; omega
                      · have q2 : (r5 (mu x k) != r5 (mu x q)) = true := by simpa using h2
                        have HP7 := Lib.hid (HP6.out.lf HMU.out rfl hkm hqm hxm HQ6.out h2)
                        have HQ7 := Lib.hid (rn_same (x := r5 (mu x q)) (y := r5 (mu x k)) HQ6.out)
                        have HJ7 := Lib.hid (HJ.out r5 (mu x q) (mu x k))
                        have hr7 : ∃ r7, r7 = rn r5 (r5 (mu x q)) (r5 (mu x k)) := ⟨_, rfl⟩
                        obtain ⟨r7, hr7⟩ := hr7
                        rw [← hr7] at HP7 HQ7 HJ7
                        clear h2 hr7
                        obtain ⟨U, hU⟩ : ∃ U, U = r5 (mu x k) := ⟨_, rfl⟩
                        obtain ⟨V, hV⟩ : ∃ V, V = r5 (mu x q) := ⟨_, rfl⟩
                        rw [← hU] at f3 q2 HJ7
                        rw [← hV] at f4 q2 HJ7
                        clear hU hV
                        go_wp2_with fail
                        go_quiet (fail)
                        obtain ⟨wv, hwq⟩ : ∃ wx, wx = w6.drewN nq := ⟨_, rfl⟩
                        rw [← hwq]
                        have HWQ : Hid (Below w6.heap.size w6 wv) := Lib.hid (by rw [hwq]; exact below_drewN (Below.refl _ _) _)
                        have hKc : K ≤ w6.heap.size := Nat.le_trans hKw HB6.out.size
                        clear hwq
                        have hca := (HWQ.out.cell (p := ⟨bT, x, none⟩) (show bT < w6.heap.size by omega)).trans hca
                        have x1 := (HWQ.out.cell (p := ⟨gx, ox + k, none⟩) (show gx < w6.heap.size by omega)).trans x1
                        have x2 := (HWQ.out.cell (p := ⟨gx, ox + q, none⟩) (show gx < w6.heap.size by omega)).trans x2
                        have f3 := (HWQ.out.cell (p := ⟨g, (mu x k), none⟩) HN6.out.lt).trans f3
                        have f4 := (HWQ.out.cell (p := ⟨g, (mu x q), none⟩) HN6.out.lt).trans f4
                        have HNQ := Lib.hid (HN6.out.below HWQ.out)
                        have HBQ : Hid (Below w.heap.size w wv) := Lib.hid (HB6.out.trans (HWQ.out.mono HB6.out.size))
                        clear HN6 HB6
                        have HN6 := HNQ
                        have HB6 := HBQ
                        clear HNQ HBQ HWQ
                        go_wp2_with fail
                        go_still_tail 21, (by kernel_rfl)
                        go_wp2_with fail
                        refine (HJ7.out _ ?nm).mono ?_
                        case nm => first | exact HN6.out.below (Below.refl _ _).drew | exact HN6.out.below (below_drewN (Below.refl _ _) _)
                        rintro e w7 ⟨rfl, hn7, hb7⟩
                        have HN7 := Lib.hid hn7
                        have HB7 : Hid (Below w.heap.size w w7) := Lib.hid (HB6.out.trans (by first | exact (Below.refl _ _).drew.trans hb7 | exact (below_drewN (Below.refl _ _) _).trans hb7))
                        clear hn7 hb7 f3 f4 q2

                        go_wp2_with fail
                        go_roundw
                        case rel => exact ⟨true, r7, x + 1, by omega, rfl, by go_num, HN7.out, HB7.out, HP7.out, HQ7.out⟩
                        case measure => simp [intOf]; omega
                  · obtain rfl : x = m := by omega
                    go_wp2_with fail
                    go_roundw
                    case rel => exact ⟨mb, r4, q + 1, by omega, rfl, by go_num, HN5.out, HB5.out, HP5.out.cols⟩
                    case measure => simp [intOf]; omega
              · have hq0 : (r3 k != r3 q) = true := by simpa using hne
                have HE := Lib.hid hne
                clear hne
                obtain ⟨X, hX⟩ : ∃ X, X = r3 k := ⟨_, rfl⟩
                obtain ⟨Y, hY⟩ : ∃ Y, Y = r3 q := ⟨_, rfl⟩
                rw [← hX] at e1 hq0
                rw [← hY] at e2 hq0
                clear hX hY
                go_wp2_with fail
                go_quiet (fail)
                go_wp2_with fail
                go_roundw
                case rel => exact ⟨mb, r3, q + 1, by omega, rfl, by go_num, HN4.out.below (below_drewN (Below.refl _ _) _), below_drewN HB4.out _, HP4.out.apart HE.out⟩
                case measure => simp [intOf]; omega
            · obtain rfl : q = k := by omega
              go_wp2_with fail
              go_roundw
              case rel => exact ⟨mb, r3, q + 1, by omega, rfl, by go_num, HN4.out, HB4.out, HP4.out.row⟩
              case measure => simp [intOf]; omega
        · obtain rfl : k = m := by omega
          go_wp2_with fail
          go_roundw
          case rel => exact ⟨mb, r2, rfl, HN3.out, HB3.out, HP3.out.spr, fun e => (HP3.out.dn e).1⟩
          case measure =>
            have h1 := nmOf_rk HN3.out
            have h2 := HP3.out.rk
            have h3 := HRW.out
            cases mb
            · simp [tO]
            · simp [tO] at *
              omega

theorem clsd_any (m : Nat) (hm : m ≤ 300) (hm1 : 1 ≤ m) (mu : Nat → Nat → Nat) (hmu : ∀ a b, a < m → b < m → mu a b < m) (s : Bool) (L : List Int) (hL : L.length = m) (aT a : Option Addr) (cT c K : Nat) (w : World) (ht : Tb w K aT m mu) (hr : InRow w a L) :
    Calls Try.prog 55 #[.slice aT m cT, .slice a m c, .bool s] w (RetOwn w.heap.size (kerG m mu s (fun i j => tL L i = tL L j)) w) := by
  cases s
  · exact clsd_right m hm hm1 mu hmu L hL aT a cT c K w ht hr
  · exact clsd_both m hm hm1 mu hmu L hL aT a cT c K w ht hr

end Go.Proofs.Ytoagpklippdlmaa
