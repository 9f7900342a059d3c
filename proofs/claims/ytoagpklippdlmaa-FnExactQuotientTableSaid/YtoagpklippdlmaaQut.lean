/- The number of classes: the contract of spec.l06Number. Rows of a table that are written place by place. The contracts of QuotientTable, on both sides. -/
import Derived.Test.YtoagpklippdlmaaPin
import Derived.Test.YtoagpklippdlmaaTby
import Derived.Test.YtoagpklippdlmaaTb
import Derived.BigQuiet
import Derived.Test.YtoagpklippdlmaaIcg
namespace Go.Proofs.Ytoagpklippdlmaa
open Go Go.RowKit

theorem rk_max (t : Nat → Int) (k : Nat) : max ((rkK t k : Int) - 1) (kvK t k : Int) = (rkK t (k + 1) : Int) - 1 := by
  rw [rkK_succ]
  by_cases h : fst1 t k = k
  · rw [if_pos h, kvK_first h]
    omega
  · rw [if_neg h]
    have h1 := fst1_at t k
    have h2 : kvK t k = kvK t (fst1 t k) := (kvK_same h1.1).symm
    have h3 : fst1 t (fst1 t k) = fst1 t k := fst1_eq h1.1
    have h4 := rkK_lt t (fst1 t k) k (by omega) h3
    have h5 := kvK_first h3
    omega

set_option maxRecDepth 100000 in
set_option maxHeartbeats 2000000 in
theorem num6_any (m : Nat) (hm : m ≤ 300) (X : List Int) (hX : Cls X m) (a : Option Addr) (c : Nat) (w : World) (hr : InRow w a X) :
    Calls Try.prog 65 #[.slice a m c] w fun e w' => e = .returned (.int .i64 (rkK (tL X) m : Nat)) ∧ w' = w := by
  have HR := Lib.hid hr
  have HX := Lib.hid hX
  clear hr hX
  go_enter Try.func65, Try.ntmps65
  go_wp2_with fail
  go_loopw [3, 4] (fun v i wr => ∃ k : Nat, k ≤ m ∧ v = .int .i64 ((rkK (tL X) k : Int) - 1) ∧ i = .int .i64 k ∧ wr = w) (fun _ i _ => m - (intOf i).toNat)
  case atStart => exact ⟨0, by omega, rfl, rfl, rfl⟩
  case round =>
    obtain ⟨k, hk, rfl, rfl, hw⟩ := hrel
    subst hw
    have HMX := Lib.hid (rk_max (tL X) k)
    by_cases hkm : k < m
    · have hkm' : (k : Int) < (m : Int) := by omega
      have hl : k < X.length := by rw [HX.out.1]; exact hkm
      obtain ⟨b, off, rfl, hlt, hcs⟩ := HR.out.resolve_left (fun e => by rw [e] at hl; simp at hl)
      have f0 := hcs k hl
      have hv : X.getD k 0 = (kvK (tL X) k : Int) := HX.out.val hkm
      rw [hv] at f0
      clear hcs hv
      generalize kvK (tL X) k = V at *
      obtain ⟨R, hR⟩ : ∃ R : Int, R = (rkK (tL X) k : Int) - 1 := ⟨_, rfl⟩
      rw [← hR] at HMX ⊢
      clear hR
      go_wp2_with fail
      go_roundw
      case rel => exact ⟨k + 1, by omega, by rw [HMX.out], by go_num, by first | trivial | rfl⟩
      case measure => simp [intOf]; omega
    · obtain rfl : k = m := by omega
      have hle := rkK_le (tL X) k
      go_wp2_with fail
      go_ret
      exact ⟨rfl, rfl⟩

/-- Rows of n numbers each, in blocks of their own, that may be written place by place. -/
structure Qrw (w : World) (B g n : Nat) (gr : Nat → Nat) (V : Nat → Nat → Int) : Prop where
  lo : B ≤ g
  lt : g < w.heap.size
  head : ∀ i, i < n → (∃ cp, w.cell? ⟨g, i, none⟩ = some (.slice (some ⟨gr i, 0, none⟩) n cp)) ∧ w.frozen? ⟨g, i, none⟩ = false
  ne : ∀ i, i < n → gr i ≠ g
  inj : ∀ i j, i < n → j < n → gr i = gr j → i = j
  blo : ∀ i, i < n → B ≤ gr i ∧ gr i < w.heap.size
  row : ∀ i, i < n → ∃ C : Array Value, w.heap[gr i]? = some (.cells C 2 (0, 0)) ∧ ∀ j, j < n → C[j]? = some (.int .i64 (V i j))

theorem Qrw.below {w w' : World} {B g n : Nat} {gr : Nat → Nat} {V : Nat → Nat → Int} (h : Qrw w B g n gr V) (hb : Below w.heap.size w w') : Qrw w' B g n gr V := by
  refine ⟨h.lo, Nat.lt_of_lt_of_le h.lt hb.size, fun i hi => ?_, h.ne, h.inj, fun i hi => ⟨(h.blo i hi).1, Nat.lt_of_lt_of_le (h.blo i hi).2 hb.size⟩, fun i hi => ?_⟩
  · have e := cell_same (o := i) (hb.block g h.lt)
    rw [e.1, e.2]
    exact h.head i hi
  · obtain ⟨C, h1, h2⟩ := h.row i hi
    exact ⟨C, (hb.block _ (h.blo i hi).2).trans h1, h2⟩

theorem Qrw.cell {w : World} {B g n : Nat} {gr : Nat → Nat} {V : Nat → Nat → Int} (h : Qrw w B g n gr V) {i j : Nat} (hi : i < n) (hj : j < n) : w.cell? ⟨gr i, j, none⟩ = some (.int .i64 (V i j)) ∧ w.frozen? ⟨gr i, j, none⟩ = false := by
  obtain ⟨C, h1, h2⟩ := h.row i hi
  exact ⟨(Joins.cell_of_block h1 j).trans (h2 j hj), Joins.unfrozen_of_block h1 j⟩

theorem Qrw.put {w : World} {B g n : Nat} {gr : Nat → Nat} {V : Nat → Nat → Int} (h : Qrw w B g n gr V) {p q : Nat} (hp : p < n) (hq : q < n) (v : Int) :
    Qrw (w.setCell ⟨gr p, q, none⟩ (.int .i64 v)) B g n gr (fun i j => if i = p ∧ j = q then v else V i j) := by
  have hsz : (w.setCell ⟨gr p, q, none⟩ (.int .i64 v)).heap.size = w.heap.size := World.size_setCell _ _ _
  refine ⟨h.lo, by rw [hsz]; exact h.lt, fun i hi => ?_, h.ne, h.inj, fun i hi => by rw [hsz]; exact h.blo i hi, fun i hi => ?_⟩
  · have e := cell_same (o := i) (w := w) (w' := w.setCell ⟨gr p, q, none⟩ (.int .i64 v)) (g := g) (hset_ne _ _ _ _ (fun e => h.ne p hp e.symm))
    rw [e.1, e.2]
    exact h.head i hi
  · obtain ⟨C, h1, h2⟩ := h.row i hi
    by_cases e : i = p
    · subst e
      refine ⟨_, Joins.block_setCell h1 _, fun j hj => ?_⟩
      have hlt : j < C.size := (Array.getElem?_eq_some_iff.1 (h2 j hj)).1
      by_cases e2 : j = q
      · subst e2
        rw [if_pos ⟨rfl, rfl⟩, Array.getElem?_setIfInBounds_self_of_lt hlt]
      · rw [if_neg (fun x => e2 x.2), Array.getElem?_setIfInBounds_ne (fun x => e2 x.symm)]
        exact h2 j hj
    · refine ⟨C, (hset_ne _ _ _ _ (fun x => e (h.inj i p hi hp x))).trans h1, fun j hj => ?_⟩
      rw [if_neg (fun x => e x.1)]
      exact h2 j hj

theorem Qrw.congr {w : World} {B g n : Nat} {gr : Nat → Nat} {V V2 : Nat → Nat → Int} (h : Qrw w B g n gr V) (e : ∀ i j, i < n → j < n → V i j = V2 i j) : Qrw w B g n gr V2 :=
  ⟨h.lo, h.lt, h.head, h.ne, h.inj, h.blo, fun i hi => by
    obtain ⟨C, h1, h2⟩ := h.row i hi
    exact ⟨C, h1, fun j hj => by rw [h2 j hj, e i j hi hj]⟩⟩

theorem Qrw.rdT {w : World} {B g n : Nat} {gr : Nat → Nat} {V : Nat → Nat → Int} (hn : n ≤ 300) (h : Qrw w B g n gr V) : RdT w B w.heap.size (some ⟨g, 0, none⟩) (tbL V n n) := by
  refine ⟨by rw [tbL_len]; omega, fun j hj => by rw [tbL_len] at hj; rw [tbL_at _ _ _ _ hj, rwL_len]; omega, Nat.le_refl _, Or.inr ⟨g, gr, fun _ => 0, rfl, h.lo, h.lt, fun i j hi hj hne e => ?_, fun j hj => ?_⟩⟩
  · rw [tbL_len] at hi hj
    exact absurd (h.inj i j hi hj e) hne
  · rw [tbL_len] at hj
    obtain ⟨⟨cp, h1⟩, h2⟩ := h.head j hj
    rw [tbL_at _ _ _ _ hj, rwL_len]
    refine ⟨⟨_, cp, h1, Or.inr ⟨rfl, h.ne j hj, (h.blo j hj).1, (h.blo j hj).2⟩⟩, h2, fun i hi => ?_⟩
    rw [rwL_len] at hi
    rw [Nat.zero_add, rwL_at _ _ _ _ hi]
    exact h.cell hj hi

/-- Rows that a function has made are such rows. -/
theorem Trw.qrw {w : World} {B n : Nat} {v : Value} {us : List Value} {V : Nat → Nat → Int} (hn1 : 1 ≤ n) (h : Trw w B v us (tbL V n n)) : ∃ g cap gr, v = .slice (some ⟨g, 0, none⟩) n cap ∧ Qrw w B g n gr V := by
  have hl := tbL_len V n n
  rcases h.own.2 with ⟨_, h0⟩ | ⟨g, cap, cur, h1, hB, hg, hcn, hcap, hsz, htk⟩
  · omega
  · rw [hl] at h1
    have hgl := (Array.getElem?_eq_some_iff.1 hg).1
    have hul : us.length = n := by have := h.own.1; omega
    have hrow : ∀ i, i < n → ∃ gi ci C, us.getD i undef = .slice (some ⟨gi, 0, none⟩) n ci ∧ B ≤ gi ∧ w.heap[gi]? = some (.cells C 2 (0, 0)) ∧ ∀ j, j < n → C[j]? = some (.int .i64 (V i j)) := fun i hi => by
      have ho := h.row i (by omega)
      rw [tbL_at _ _ _ _ hi] at ho
      have hrl := rwL_len V i n
      rcases ho.2 with ⟨_, q0⟩ | ⟨gi, ci, C, q1, qB, qg, _, _, _, qt⟩
      · omega
      · rw [hrl] at q1 qt
        refine ⟨gi, ci, C, q1, qB, qg, fun j hj => ?_⟩
        have e : C.toList[j]? = ((rwL V i n).map (Value.int .i64))[j]? := by rw [← qt, List.getElem?_take, if_pos (by omega)]
        rw [← Array.getElem?_toList, e, List.getElem?_map, List.getElem?_eq_getElem (by omega), ← rwL_at V i n j hj, List.getD_eq_getElem?_getD, List.getElem?_eq_getElem (by omega)]
        rfl
    have hgi : ∀ i, i < n → ∃ ci C, us.getD i undef = .slice (some ⟨((us.getD i undef).ownBlock).getD 0, 0, none⟩) n ci ∧ B ≤ ((us.getD i undef).ownBlock).getD 0 ∧ w.heap[((us.getD i undef).ownBlock).getD 0]? = some (.cells C 2 (0, 0)) ∧ ∀ j, j < n → C[j]? = some (.int .i64 (V i j)) := fun i hi => by
      obtain ⟨gi, ci, C, q1, q2, q3, q4⟩ := hrow i hi
      have e : ((us.getD i undef).ownBlock).getD 0 = gi := by rw [q1]; rfl
      rw [e]
      exact ⟨ci, C, q1, q2, q3, q4⟩
    refine ⟨g, cap, fun i => ((us.getD i undef).ownBlock).getD 0, h1, hB, hgl, fun i hi => ?_, fun i hi e => ?_, fun i j hi hj e => ?_, fun i hi => ?_, fun i hi => ?_⟩
    · obtain ⟨ci, C, q1, q2, q3, q4⟩ := hgi i hi
      have e : cur.toList[i]? = us[i]? := by rw [← htk, List.getElem?_take, if_pos (by omega)]
      refine ⟨⟨ci, ?_⟩, Joins.unfrozen_of_block hg i⟩
      rw [Joins.cell_of_block hg i, ← Array.getElem?_toList, e, ← q1, List.getD_eq_getElem?_getD, List.getElem?_eq_getElem (by omega)]
      rfl
    · obtain ⟨ci, C, q1, q2, q3, q4⟩ := hgi i hi
      rw [e, hg] at q3
      injection q3 with q3
      injection q3 with _ q3
      exact absurd q3 (by decide)
    · have ei := hgi i hi
      have ej := hgi j hj
      obtain ⟨ci, Ci, q1, _⟩ := ei
      obtain ⟨cj, Cj, r1, _⟩ := ej
      have hs : (us.getD i undef).ownBlock = (us.getD j undef).ownBlock := by
        have e1 : (us.getD i undef).ownBlock = some (((us.getD i undef).ownBlock).getD 0) := by rw [q1]; rfl
        have e2 : (us.getD j undef).ownBlock = some (((us.getD j undef).ownBlock).getD 0) := by rw [r1]; rfl
        rw [e1, e2]
        exact congrArg some e
      rcases Nat.lt_trichotomy i j with c | c | c
      · exact absurd hs (h.ne i j c (by omega))
      · exact c
      · exact absurd hs.symm (h.ne j i c (by omega))
    · obtain ⟨ci, C, q1, q2, q3, q4⟩ := hgi i hi
      exact ⟨q2, (Array.getElem?_eq_some_iff.1 q3).1⟩
    · obtain ⟨ci, C, q1, q2, q3, q4⟩ := hgi i hi
      exact ⟨C, q3, q4⟩

theorem frs_get (L : List Int) : ∀ k i, i < rkK (tL L) k → (frs L k).getD i 0 < k ∧ fst1 (tL L) ((frs L k).getD i 0) = (frs L k).getD i 0 ∧ rkK (tL L) ((frs L k).getD i 0) = i
  | 0, i, h => by
    have := rkK_le (tL L) 0
    omega
  | k + 1, i, h => by
    rw [rkK_succ] at h
    rw [frs_succ]
    have hl := frs_len L k
    by_cases e : fst1 (tL L) k = k
    · rw [if_pos e] at h ⊢
      by_cases hi : i < rkK (tL L) k
      · obtain ⟨h1, h2, h3⟩ := frs_get L k i hi
        have e2 : (frs L k ++ [k]).getD i 0 = (frs L k).getD i 0 := by
          rw [List.getD_eq_getElem?_getD, List.getElem?_append_left (by omega), ← List.getD_eq_getElem?_getD]
        rw [e2]
        exact ⟨by omega, h2, h3⟩
      · have e2 : (frs L k ++ [k]).getD i 0 = k := by
          rw [List.getD_eq_getElem?_getD, List.getElem?_append_right (by omega), show i - (frs L k).length = 0 from by omega]
          rfl
        rw [e2]
        exact ⟨by omega, e, by omega⟩
    · rw [if_neg e] at h ⊢
      obtain ⟨h1, h2, h3⟩ := frs_get L k i h
      exact ⟨by omega, h2, h3⟩

/-- The product of two classes, by their first elements. -/
def qF (m : Nat) (mu : Nat → Nat → Nat) (X : List Int) (i j : Nat) : Int := tL X (mu ((frs X m).getD i 0) ((frs X m).getD j 0))

/-- The first elements as Go's numbers. -/
def frI (X : List Int) (m : Nat) : List Int := (frs X m).map fun x : Nat => (x : Int)
theorem frI_len (X : List Int) (m : Nat) : (frI X m).length = rkK (tL X) m := by unfold frI; rw [List.length_map, frs_len]
theorem frI_at (X : List Int) (m i : Nat) (h : i < rkK (tL X) m) : (frI X m).getD i 0 = ((frs X m).getD i 0 : Nat) := by
  have hl := frs_len X m
  unfold frI
  rw [List.getD_eq_getElem?_getD, List.getElem?_map, List.getElem?_eq_getElem (by omega), List.getD_eq_getElem?_getD, List.getElem?_eq_getElem (by omega)]
  rfl

set_option maxRecDepth 100000 in
set_option maxHeartbeats 4000000 in
theorem qut_tells (m : Nat) (_ : m ≤ 30) (mu : Nat → Nat → Nat) (hmu : ∀ a b, a < m → b < m → mu a b < m) (X : List Int) (hX : X.length = m) (b3 b6 b9 K : Nat) (ax aT aF : Option Addr) (cx cT cF n : Nat) (hn : n = rkK (tL X) m) (w : World)
    (h3 : w.heap[b3]? = some (.cells #[.slice ax m cx] 26 (0, 0))) (h6 : w.heap[b6]? = some (.cells #[.slice aT m cT] 58 (0, 0))) (h9 : w.heap[b9]? = some (.cells #[.slice aF n cF] 26 (0, 0)))
    (hx : InRow w ax X) (ht : Tb w K aT m mu) (hf : InRow w aF (frI X m)) :
    Tells2 w n (qF m mu X) 68 #[.pointer (some ⟨b3, 0, none⟩), .pointer (some ⟨b6, 0, none⟩), .pointer (some ⟨b9, 0, none⟩)] := by
  intro i j hi hj z hz
  have e3 := Joins.cell_of_block ((hz.block _ (Array.getElem?_eq_some_iff.1 h3).1).trans h3) 0
  have e6 := Joins.cell_of_block ((hz.block _ (Array.getElem?_eq_some_iff.1 h6).1).trans h6) 0
  have e9 := Joins.cell_of_block ((hz.block _ (Array.getElem?_eq_some_iff.1 h9).1).trans h9) 0
  simp only [List.getElem?_toArray, List.getElem?_cons_zero] at e3 e6 e9
  obtain ⟨q1, _, _⟩ := frs_get X m i (by omega)
  obtain ⟨r1, _, _⟩ := frs_get X m j (by omega)
  have hm3 := hmu _ _ q1 r1
  have hfl := frI_len X m
  obtain ⟨bF, oF, rfl, _, hcF⟩ := (hf.below hz).resolve_left (fun e => by rw [e] at hfl; simp at hfl; omega)
  obtain ⟨bX, oX, rfl, _, hcX⟩ := (hx.below hz).resolve_left (fun e => by rw [e] at hX; simp at hX; omega)
  obtain ⟨bT, rfl, _, hrows⟩ := (ht.below (hz.mono ht.hK)).rows
  have g1 := hcF i (by omega)
  have g2 := hcF j (by omega)
  rw [frI_at X m i (by omega)] at g1
  rw [frI_at X m j (by omega)] at g2
  obtain ⟨ga, oa, ca, _, g3, hcs⟩ := hrows _ q1
  have g4 := hcs _ r1
  have g5 := hcX _ (show mu ((frs X m).getD i 0) ((frs X m).getD j 0) < X.length by omega)
  have HQ : Hid (qF m mu X i j = X.getD (mu ((frs X m).getD i 0) ((frs X m).getD j 0)) 0) := Lib.hid rfl
  have hi' : (i : Int) < (n : Int) := by omega
  have hj' : (j : Int) < (n : Int) := by omega
  clear hcs hrows hcX hcF ht hf hx h3 h6 h9 hz hmu hfl
  generalize (frs X m).getD i 0 = A at *
  generalize (frs X m).getD j 0 = D at *
  generalize X.getD (mu A D) 0 = V at *
  generalize mu A D = M at *
  have hA : (A : Int) < (m : Int) := by omega
  have hD : (D : Int) < (m : Int) := by omega
  have hM : (M : Int) < (m : Int) := by omega
  simp only [List.append_toArray, List.cons_append, List.nil_append]
  go_enter Try.func68, Try.ntmps68
  go_wp2_with fail
  go_quiet (fail)
  go_wp2_with fail
  go_ret
  exact ⟨by rw [HQ.out]; rfl, below_drewN (Below.refl _ _) _⟩

theorem qut_enters : ∀ args w, (callFunc 68 args).run Try.prog w = .ok (.enter 68 args) w := enters_of Try.func68 (by kernel_rfl) rfl

end Go.Proofs.Ytoagpklippdlmaa

namespace Go.Proofs.Ytoagpklippdlmaa
open Go Go.RowKit

/-- The quotient's table; nothing with an error. -/
noncomputable def qutL (L : List MapN) (X : List Int) : List (List Int) := if cgC L [X] = 0 then tbL (qF (elsK L).length (muK (fst0 L) (elsK L)) X) (rkK (tL X) (elsK L).length) (rkK (tL X) (elsK L).length) else []

theorem qutL_0 {L : List MapN} {X : List Int} (h : cgC L [X] = 0) : qutL L X = tbL (qF (elsK L).length (muK (fst0 L) (elsK L)) X) (rkK (tL X) (elsK L).length) (rkK (tL X) (elsK L).length) := by unfold qutL; rw [if_pos h]
theorem qutL_no {L : List MapN} {X : List Int} (h : cgC L [X] ≠ 0) : qutL L X = [] := by unfold qutL; rw [if_neg h]

/-- Classes that are a congruence, as a relation. -/
theorem cls_cgr6 {m : Nat} {mu : Nat → Nat → Nat} (hmu : ∀ a b, a < m → b < m → mu a b < m) {X : List Int} (h : cngB m mu true X = true) {a a' b b' : Nat} (ha : a < m) (ha' : a' < m) (hb : b < m) (hb' : b' < m) (e1 : tL X a = tL X a') (e2 : tL X b = tL X b') : tL X (mu a b) = tL X (mu a' b') := by
  have he : kerG m mu true (fun i j => tL X i = tL X j) = X := by simpa [cngB] using h
  have hiff : ∀ i j, i < m → j < m → (tL X i = tL X j ↔ Gen m mu true (fun i j => tL X i = tL X j) i j) := fun i j hi hj => by
    have := kerG_iff (mu := mu) (s := true) (P := fun i j => tL X i = tL X j) hi hj
    rw [he] at this
    exact this
  have G := gen_cgr m mu true (fun i j => tL X i = tL X j)
  refine ((hiff _ _ (hmu _ _ ha hb) (hmu _ _ ha' hb)).2 (G.rt a a' b ha ha' hb ((hiff a a' ha ha').1 e1))).trans ?_
  exact (hiff _ _ (hmu _ _ ha' hb) (hmu _ _ ha' hb')).2 (G.lf rfl b b' a' hb hb' ha' ((hiff b b' hb hb').1 e2))

/-- The number of the class of an element. -/
def kn (X : List Int) (a : Nat) : Nat := rkK (tL X) (fst1 (tL X) a)

/-- What the rows hold behind k rounds and j more. -/
def Qdn (m : Nat) (mu : Nat → Nat → Nat) (X : List Int) (V : Nat → Nat → Int) (k j : Nat) : Prop :=
  ∀ a b, a < m → b < m → (a < k ∨ (a = k ∧ b < j)) → V (kn X a) (kn X b) = tL X (mu a b)

theorem Qdn.put {m : Nat} {mu : Nat → Nat → Nat} (hmu : ∀ a b, a < m → b < m → mu a b < m) {X : List Int} (hX : Cls X m) (hc : cngB m mu true X = true) {V : Nat → Nat → Int} {k j : Nat} (hk : k < m) (hj : j < m) (h : Qdn m mu X V k j) :
    Qdn m mu X (fun x y => if x = kn X k ∧ y = kn X j then tL X (mu k j) else V x y) k (j + 1) := fun a b ha hb hd => by
  dsimp only
  split
  · rename_i e
    refine cls_cgr6 hmu hc hk ha hj hb ?_ ?_
    · exact ((hX.fst hk).1.trans (congrArg Int.ofNat e.1.symm)).trans (hX.fst ha).1.symm
    · exact ((hX.fst hj).1.trans (congrArg Int.ofNat e.2.symm)).trans (hX.fst hb).1.symm
  · rename_i e
    refine h a b ha hb ?_
    rcases hd with hd | ⟨rfl, hd⟩
    · exact Or.inl hd
    · refine Or.inr ⟨rfl, ?_⟩
      rcases Nat.lt_succ_iff_lt_or_eq.1 hd with c | c
      · exact c
      · subst c; exact absurd ⟨rfl, rfl⟩ e

theorem Qdn.row {m : Nat} {mu : Nat → Nat → Nat} {X : List Int} {V : Nat → Nat → Int} {k : Nat} (h : Qdn m mu X V k m) : Qdn m mu X V (k + 1) 0 := fun a b ha hb hd => by
  rcases hd with hd | ⟨_, hd⟩
  · rcases Nat.lt_succ_iff_lt_or_eq.1 hd with c | c
    · exact h a b ha hb (Or.inl c)
    · exact h a b ha hb (Or.inr ⟨c, hb⟩)
  · omega

theorem Qdn.all {m : Nat} {mu : Nat → Nat → Nat} {X : List Int} {V : Nat → Nat → Int} (h : Qdn m mu X V m 0) {i j : Nat} (hi : i < rkK (tL X) m) (hj : j < rkK (tL X) m) : V i j = qF m mu X i j := by
  obtain ⟨p1, p2, p3⟩ := frs_get X m i hi
  obtain ⟨q1, q2, q3⟩ := frs_get X m j hj
  have := h _ _ p1 q1 (Or.inl p1)
  unfold kn at this
  rw [p2, q2, p3, q3] at this
  exact this

theorem rd_set6 {w : World} {B g : Nat} {a : Option Addr} {L : List Int} {v : Value} (h : Rd w B a L) (hg : g < B) : InRow (w.setCell ⟨g, 0, none⟩ v) a L := by
  rcases h.2 with h0 | ⟨k, ha, hB, hk, hc⟩
  · exact Or.inl h0
  · refine Or.inr ⟨k, 0, ha, by rw [World.size_setCell]; exact hk, fun i hi => ?_⟩
    rw [Nat.zero_add, (cell_same (o := i) (hset_ne w _ _ _ (fun e => by have e : k = g := e; omega))).1]
    exact (hc i hi).1

/-- Rows of zeros. -/
def zrF (_ _ : Nat) : Int := 0

set_option maxRecDepth 100000 in
set_option maxHeartbeats 4000000 in
theorem sQut_any (L : List MapN) (hl : L.length ≤ 1048576) (X : List Int) (hx : X.length ≤ 1048576) (_ : ∀ x ∈ X, (Lit.int .i64 x).wf = true) (a : Option Addr) (c : Nat) (_ : a = none → c = 0) (ax : Option Addr) (cx : Nat) (w : World) (hr : InRowM w a L) (hrx : InRow w ax X) :
    Calls Try.prog 37 #[.slice a L.length c, .slice ax X.length cx] w (RetT w.heap.size (qutL L X) (cgC L [X]) w) := by
  have hba : Below w.heap.size w (w.alloc (.cells #[.slice ax X.length cx] 26)) := (Below.refl _ _).alloc (Nat.le_refl _) _
  have HS := Lib.hid (scl_any a c L hl [X] (by simp) (one_j (Q := fun Y => Y.length ≤ 1048576) hx) (some ⟨w.heap.size, 0, none⟩) 1 _ (hr.below hba) (rows_one (c := cx) hrx))
  have HR := Lib.hid hrx
  have HBA := Lib.hid hba
  clear hr hrx hba
  go_enter Try.func37, Try.ntmps37
  go_wp2_with fail
  refine HS.out.mono ?_
  rintro e w1 ⟨hb, ⟨hc, rfl⟩ | ⟨hc, hmon, hle, hcl, a1, c1, rfl, htb⟩⟩
  · have HB := Lib.hid (HBA.out.trans (hb.mono (by simp)))
    have hc2 := cgC_bad hc
    have HQ := Lib.hid (qutL_no (L := L) (X := X) (by rw [hc2]; exact hc))
    have HC := Lib.hid hc2
    have hne : (clC L [X] != 0) = true := by simpa using hc
    have hne0 : (clC L [X] == 0) = false := by simpa using hc
    clear hb hc hc2
    generalize clC L [X] = C at *
    go_wp2_with fail
    go_ret2
    rw [HQ.out, HC.out]
    exact retT_nil HB.out C
  · have hcls : Cls X (elsK L).length := hcl 0 (by simp)
    have hlen := hcls.1
    have HB := Lib.hid (HBA.out.trans (hb.mono (by simp)))
    have HX1 := Lib.hid (HR.out.below HB.out)
    have HC0 := Lib.hid hc
    have HTB := Lib.hid htb
    have hmu := fun i j hi hj => muK_lt hmon i j hi hj
    have hm1 := mon_pos hmon
    have HCL := Lib.hid fun aT cT a c K w ht hr => clsd_any (elsK L).length (by omega) hm1 (muK (fst0 L) (elsK L)) hmu true X hlen aT a cT c K w ht hr
    have hkl := kerG_len (elsK L).length (muK (fst0 L) (elsK L)) true (fun i j => tL X i = tL X j)
    have HEQ := Lib.hid fun a1 a2 c1 c2 w h1 h2 => seq_any (kerG (elsK L).length (muK (fst0 L) (elsK L)) true (fun i j => tL X i = tL X j)) X (by omega) (by omega) a1 a2 c1 c2 w h1 h2
    have HCN : Hid (cngB (elsK L).length (muK (fst0 L) (elsK L)) true X = eqLB (kerG (elsK L).length (muK (fst0 L) (elsK L)) true (fun i j => tL X i = tL X j)) X) := Lib.hid rfl
    have HC5 := Lib.hid fun h => cgC_5 (L := L) (LL := [X]) hc 0 (by simp) h
    have HCZ := Lib.hid fun h => cgC_0 (L := L) (LL := [X]) hc (one_j (Q := fun Y => cngB (elsK L).length (muK (fst0 L) (elsK L)) true Y = true) h)
    have HQN := Lib.hid fun h => qutL_no (L := L) (X := X) h
    have HQ0 := Lib.hid fun h => qutL_0 (L := L) (X := X) h
    have HNU := Lib.hid fun a c w h => num6_any (elsK L).length (by omega) X hcls a c w h
    have HCLS := Lib.hid hcls
    have HMU := Lib.hid hmu
    clear hb hc hcl hmon htb HS hmu
    rw [show [X].getD 0 [] = X from rfl] at HC5
    generalize kerG (elsK L).length (muK (fst0 L) (elsK L)) true (fun i j => tL X i = tL X j) = G at *
    generalize muK (fst0 L) (elsK L) = mu at *
    generalize (elsK L).length = m at *
    rw [hkl, hlen] at HEQ
    rw [hlen]
    cases hB : eqLB G X
    · rw [hB] at HEQ HCN
      have h5 := HC5.out HCN.out
      have HC := Lib.hid h5
      have HQ := Lib.hid (HQN.out (by rw [h5]; decide))
      clear hB h5
      go_wp2_with fail
      refine (HCL.out _ _ _ _ _ _ HTB.out HX1.out).mono ?_
      rintro e w2 ⟨v, rfl, hown, hb2⟩
      obtain ⟨a2, c2, rfl, hrd⟩ := own_rd hown (by omega)
      have HB2 := Lib.hid (HB.out.trans (hb2.mono HB.out.size))
      have HRD := Lib.hid hrd.inRow
      have HX2 := Lib.hid (HX1.out.below hb2)
      clear hown hrd hb2
      rw [hkl]
      clear hkl
      go_wp2_with fail
      refine (HEQ.out _ _ _ _ _ HRD.out HX2.out).mono ?_
      rintro e w3 ⟨rfl, hb3⟩
      have HB3 := Lib.hid (HB2.out.trans (hb3.mono HB2.out.size))
      clear hb3
      go_wp2_with fail
      go_ret2
      rw [HQ.out, HC.out]
      exact retT_nil HB3.out 5
    · rw [hB] at HEQ HCN
      have h0 := HCZ.out HCN.out
      have HC := Lib.hid h0
      have HQ := Lib.hid (HQ0.out h0)
      have HCG := Lib.hid HCN.out
      have hrk : rkK (tL X) m ≤ m := rkK_le _ _
      have hrk1 := rkK_pos (tL X) m (by omega)
      have HKV : Hid (∀ a, a < m → kn X a < rkK (tL X) m) := Lib.hid fun a ha => by have := (hcls.fst ha).2.1; rw [frs_len] at this; exact this
      clear hB h0 HCN HC5 HCZ HQN HQ0 hcls
      obtain ⟨n, hn⟩ : ∃ n, n = rkK (tL X) m := ⟨_, rfl⟩
      rw [← hn] at hrk hrk1 HKV HQ HNU
      have HN := Lib.hid hn
      clear hn
      go_wp2_with fail
      refine (HCL.out _ _ _ _ _ _ HTB.out HX1.out).mono ?_
      rintro e w2 ⟨v, rfl, hown, hb2⟩
      obtain ⟨a2, c2, rfl, hrd⟩ := own_rd hown (by omega)
      have HB2 := Lib.hid (HB.out.trans (hb2.mono HB.out.size))
      have HRD := Lib.hid hrd.inRow
      have HX2 := Lib.hid (HX1.out.below hb2)
      have HT2 := Lib.hid (HTB.out.below hb2)
      clear hown hrd hb2
      rw [hkl]
      clear hkl
      go_wp2_with fail
      refine (HEQ.out _ _ _ _ _ HRD.out HX2.out).mono ?_
      rintro e w3 ⟨rfl, hb3⟩
      have HB3 := Lib.hid (HB2.out.trans (hb3.mono HB2.out.size))
      have HX3 := Lib.hid (HX2.out.below hb3)
      have HT3 := Lib.hid (HT2.out.below (hb3.mono HT2.out.hK))
      clear hb3 HRD HX2 HT2
      go_wp2_with fail
      refine (HNU.out _ _ _ HX3.out).mono ?_
      rintro e w3 ⟨rfl, rfl⟩
      have hw3 := HB3.out.size
      have HZ := Lib.hid (tbL_succ zrF n)
      obtain ⟨i0, hi, hz0, hz1, hz2⟩ := info_parts info_int
      go_wp2_with fail
      go_loopw [9, 10] (fun v i wr => ∃ (k : Nat) (us : List Value), k ≤ n ∧ i = .int .i64 k ∧ Trw wr w3.heap.size v us (tbL zrF n k) ∧ Below w3.heap.size w3 wr) (fun _ i _ => n - (intOf i).toNat)
      case atStart => exact ⟨0, [], by omega, rfl, trw_nil w3 w3.heap.size (Nat.le_refl _), (Below.refl _ _).alloc (Nat.le_refl _) _⟩
      case round =>
        obtain ⟨k, us, hk, rfl, hown, hb⟩ := hrel
        have HO := Lib.hid hown
        have HBR := Lib.hid hb
        have hzw := hb.size
        clear hb hown
        by_cases hkn : k < n
        · have hkn' : (k : Int) < (n : Int) := by omega
          go_wp2_with (at_make; refine wpList_make_full _ rfl _ _ 26 rfl w3.heap.size 2 i0 (.int .i64 0) 1 Try.underlying26 hi hz0 hz1 .i64 .i64 (n : Int) (n : Int) n rfl rfl rfl rfl ?c1 ?c2 ?c3 ?_)
          case c1 => rw [hz2]; omega
          case c2 => unfold maxLen; omega
          case c3 => exact hzw
          intro w5 hown5 hgrow5
          have HB5 : Hid (Below wr.heap.size wr w5) := Lib.hid ((Below.refl _ _).grown hgrow5 (Nat.le_refl _) (fun k hk => by cases hk))
          have hz5 := HB5.out.size
          have hrl := rwL_len zrF k n
          have hrr : (rwL zrF k n).map (Value.int .i64) = List.replicate n (.int .i64 0) := by
            unfold rwL zrF
            rw [List.map_map]
            refine List.eq_replicate_iff.2 ⟨by simp, fun b hb => ?_⟩
            obtain ⟨_, _, rfl⟩ := List.mem_map.1 hb
            rfl
          have HOU : Hid (Own w5 w3.heap.size (.slice (some ⟨wr.heap.size, 0, none⟩) n n) (rwL zrF k n)) := Lib.hid (by
            unfold Own
            rw [hrl, hrr, ← Go.toList_madeCells_one]
            exact hown5)
          have HNE : Hid (rwL zrF k n ≠ []) := Lib.hid (fun e => by rw [e] at hrl; simp at hrl; omega)
          have HSU := Lib.hid (tbL_succ zrF n k)
          have HML := Lib.hid (tbL_len zrF n k)
          have HT3 := Lib.hid (HO.out.below HB5.out)
          have HNW : Hid (∀ i, i < (tbL zrF n k).length → (us.getD i undef).ownBlock ≠ (Value.slice (some ⟨wr.heap.size, 0, none⟩) n n).ownBlock) := Lib.hid fun i hi e => by
            obtain ⟨g2, c2, e2, _, hl2⟩ := own_blk (HO.out.row i hi) (HO.out.full i hi)
            rw [e2] at e
            simp [Value.ownBlock] at e
            omega
          have HBD := Lib.hid (halloc_at w5 (.cells #[.slice (some ⟨wr.heap.size, 0, none⟩) n n] 26) _ rfl)
          clear hown5 hgrow5 hrl hrr HO
          obtain ⟨L5, hL5⟩ : ∃ L5, L5 = rwL zrF k n := ⟨_, rfl⟩
          rw [← hL5] at HNE HSU HOU
          clear hL5
          go_wp2_with (at_builtin; refine wpList_appT rfl _ _ rfl w3.heap.size _ us (tbL zrF n k) rfl (HT3.out.below ((Below.refl _ _).alloc (Nat.le_refl _) _)) w5.heap.size 1 _ L5 ((Turn.of_below (S := fun _ => False) ((Below.refl _ _).alloc (Nat.le_refl _) _)).own HOU.out (fun _ _ h => h)) HNE.out HNW.out rfl HBD.out (by rw [HML.out]; omega) (by simp; omega) ?_; intro v4 w4 hown4 hgrow4; have HO4 := Lib.hid hown4; have HB6 := Lib.hid (((HBR.out.trans (HB5.out.mono hzw)).alloc (by omega) _).grown hgrow4 (by simp; omega) (fun q e => (World.ownsRow.lt HT3.out.own q e).1)); clear hown4 hgrow4)
          go_roundw
          case rel => exact ⟨k + 1, _, by omega, by go_num, by rw [HSU.out]; exact HO4.out, HB6.out⟩
          case measure => simp [intOf]; omega
        · obtain rfl : k = n := by omega
          obtain ⟨g, cap, gr, rfl, hq⟩ := HO.out.qrw hrk1
          have HQR := Lib.hid hq
          have HQD : Hid (Qdn m mu X zrF 0 0) := Lib.hid fun a b _ _ h => by omega
          clear hq HO HZ
          go_wp2_with fail
          go_loopw [11, 12, 13] (fun i _ _ wr => ∃ (q : Nat) (V : Nat → Nat → Int), q ≤ m ∧ i = .int .i64 q ∧ Qrw wr w3.heap.size g k gr V ∧ Qdn m mu X V q 0 ∧ Below w3.heap.size w3 wr) (fun i _ _ _ => m - (intOf i).toNat)
          case atStart => exact ⟨0, zrF, by omega, rfl, HQR.out, HQD.out, HBR.out⟩
          case round =>
            obtain ⟨q, V, hq, rfl, hqr, hqd, hb⟩ := hrel
            have HQR2 := Lib.hid hqr
            have HQD2 := Lib.hid hqd
            have HB6 := Lib.hid hb
            clear hqr hqd hb HQR HQD HBR
            obtain ⟨wo, hwo⟩ : ∃ wo, wo = wr := ⟨_, rfl⟩
            subst hwo
            by_cases hqm : q < m
            · have hqm' : (q : Int) < (m : Int) := by omega
              go_wp2_with fail
              go_loopw [12, 13] (fun i _ wr => ∃ (j : Nat) (V : Nat → Nat → Int), j ≤ m ∧ i = .int .i64 j ∧ Qrw wr w3.heap.size g k gr V ∧ Qdn m mu X V q j ∧ Below w3.heap.size w3 wr) (fun i _ _ => m - (intOf i).toNat)
              case atStart => exact ⟨0, V, by omega, rfl, HQR2.out, HQD2.out, HB6.out⟩
              case round =>
                obtain ⟨j, V2, hj, rfl, hqr, hqd, hb⟩ := hrel
                have HQR3 := Lib.hid hqr
                have HQD3 := Lib.hid hqd
                have HB7 := Lib.hid hb
                clear hqr hqd hb HQR2 HQD2 HB6
                by_cases hjm : j < m
                · have hjm' : (j : Int) < (m : Int) := by omega
                  have hxl : X.length = m := hlen
                  obtain ⟨bX, oX, rfl, hlX, hcX⟩ := (HX3.out.below HB7.out).resolve_left (fun e => by rw [e] at hxl; simp at hxl; omega)
                  obtain ⟨bT, rfl, hbT, hrows⟩ := (HT3.out.below (HB7.out.mono HT3.out.hK)).rows
                  obtain ⟨ga, oa, ca, hga, t1, hcs⟩ := hrows q hqm
                  have t2 := hcs j hjm
                  have hmj := HMU.out q j hqm hjm
                  have x1 := hcX q (by omega)
                  have x2 := hcX j (by omega)
                  have x3 := hcX (mu q j) (by omega)
                  have vq : X.getD q 0 = (kn X q : Int) := (HCLS.out.fst hqm).1
                  have vj : X.getD j 0 = (kn X j : Int) := (HCLS.out.fst hjm).1
                  rw [vq] at x1
                  rw [vj] at x2
                  have kq := HKV.out q hqm
                  have kj := HKV.out j hjm
                  have HPQ := Lib.hid (HQD3.out.put HMU.out HCLS.out HCG.out hqm hjm)
                  have HPR := Lib.hid fun v => HQR3.out.put kq kj v
                  have HXV : Hid (tL X (mu q j) = X.getD (mu q j) 0) := Lib.hid rfl
                  rw [HXV.out] at HPQ
                  obtain ⟨⟨cp, y1⟩, _⟩ := HQR3.out.head _ kq
                  obtain ⟨y2, y3⟩ := HQR3.out.cell kq kj
                  have hgB := (HQR3.out.blo _ kq).1
                  have hgl := (HQR3.out.blo _ kq).2
                  clear hcX hrows hcs vq vj HXV
                  generalize kn X q = A at *
                  generalize kn X j = D at *
                  generalize X.getD (mu q j) 0 = Y at *
                  generalize mu q j = M at *
                  have HPR := Lib.hid (HPR.out Y)
                  generalize V2 A D = Y0 at *
                  generalize gr A = gA at *
                  have hA' : (A : Int) < (k : Int) := by omega
                  have hD' : (D : Int) < (k : Int) := by omega
                  have hM' : (M : Int) < (m : Int) := by omega
                  have hxl' : (M : Int) < (X.length : Int) := by omega
                  clear hxl
                  go_wp2_with fail
                  go_still_tail 16, (by kernel_rfl)
                  go_wp2_with fail
                  go_roundw
                  case rel => exact ⟨j + 1, _, by omega, by go_num, HPR.out.below (below_drewN (Below.refl _ _) _), HPQ.out, below_drewN (HB7.out.setCell hgB _) _⟩
                  case measure => simp [intOf]; omega
                · obtain rfl : j = m := by omega
                  have HQD4 := Lib.hid HQD3.out.row
                  go_wp2_with fail
                  go_roundw
                  case rel => exact ⟨q + 1, V2, by omega, by go_num, HQR3.out, HQD4.out, HB7.out⟩
                  case measure => simp [intOf]; omega
            · obtain rfl : q = m := by omega
              have HR6 := Lib.hid ((HQR2.out.congr (V2 := qF q mu X) (fun i j hi hj => HQD2.out.all (by rw [← HN.out]; exact hi) (by rw [← HN.out]; exact hj))).rdT (by omega))
              have HB8 : Hid (Below w.heap.size w wo) := Lib.hid (HB3.out.trans (HB6.out.mono hw3))
              have HTL := Lib.hid (tbL_len (qF q mu X) k k)
              clear HQR2 HQD2
              go_wp2_with fail
              go_ret2
              rw [HQ.out, HC.out]
              exact retT_of HTL.out HR6.out hw3 (mkF_tb300 _ (by omega)) HB8.out

set_option maxRecDepth 100000 in
set_option maxHeartbeats 4000000 in
theorem iQut_any (L : List MapN) (hl : L.length ≤ 1048576) (X : List Int) (_ : X.length ≤ 1048576) (hwx : ∀ x ∈ X, (Lit.int .i64 x).wf = true) (a : Option Addr) (c : Nat) (hc0 : a = none → c = 0) (ax : Option Addr) (cx : Nat) (w : World) (hr : InRowM w a L) (hrx : InRow w ax X) :
    Calls Try.prog 38 #[.slice a L.length c, .slice ax X.length cx] w (RetT w.heap.size (qutL L X) (cgC L [X]) w) := by
  have hb1 : Below w.heap.size w (w.alloc (.cells #[.slice ax X.length cx] 26)) := (Below.refl _ _).alloc (Nat.le_refl _) _
  have hbx := halloc_at w (.cells #[.slice ax X.length cx] 26) _ rfl
  obtain ⟨wb, hwb⟩ : ∃ wb, wb = w.alloc (.cells #[.slice ax X.length cx] 26) := ⟨_, rfl⟩
  rw [← hwb] at hb1 hbx
  have hrx1 := hrx.below hb1
  have hsb : wb.heap.size = w.heap.size + 1 := by rw [hwb]; simp
  have hb2 : Below wb.heap.size wb (wb.alloc (.cells #[.slice ax X.length cx] 26)) := (Below.refl _ _).alloc (Nat.le_refl _) _
  have hHS := icgf_any a c hc0 L hl [X] (by simp) (one_j (Q := fun Z => ∀ x ∈ Z, (Lit.int .i64 x).wf = true) hwx) (some ⟨wb.heap.size, 0, none⟩) 1 _ ((hr.below hb1).below hb2) (rows_one (c := cx) hrx1)
  rw [hsb] at hHS
  have HS := Lib.hid hHS
  have hsb1 : w.heap.size < wb.heap.size := by omega
  have HB1 := Lib.hid hb1
  have HB2 := Lib.hid hb2
  have HBX := Lib.hid hbx
  have HRX := Lib.hid hrx1
  have e0 := Joins.cell_of_block hbx 0
  simp only [List.getElem?_toArray, List.getElem?_cons_zero] at e0
  clear hr hrx hb1 hb2 hc0 hbx hrx1 hHS hsb
  go_enter Try.func38, Try.ntmps38
  have hbt : Below w.heap.size w (wb.alloc (.cells #[.slice ax X.length cx] 26)) := HB1.out.trans (HB2.out.mono (by omega))
  have HBT := Lib.hid hbt
  clear hbt
  go_wp2_with fail
  rw [← hwb]
  clear hwb
  refine HS.out.mono ?_
  rintro e w1 ⟨hb, ⟨hc, rfl⟩ | ⟨hc, hmon, hle, hcl, a1, c1, a2, c2, rfl, htb, hia⟩⟩
  · have HB := Lib.hid (HBT.out.trans (hb.mono (by simp; omega)))
    have HQ := Lib.hid (qutL_no hc)
    have hne : (cgC L [X] != 0) = true := by simpa using hc
    have hs1 := HB.out.size
    clear hb hc
    generalize cgC L [X] = C at *
    go_wp2_with fail
    go_ret2
    rw [HQ.out]
    exact retT_nil (HB.out.alloc hs1 _) C
  · obtain ⟨hclx, hcgx⟩ := hcl 0 (by simp)
    rw [show [X].getD 0 [] = X from rfl] at hclx hcgx
    have hlen := hclx.1
    have HB := Lib.hid (HBT.out.trans (hb.mono (by simp; omega)))
    have hs1 := HB.out.size
    have hsw1 : w.heap.size < w1.heap.size := by have := hb.size; (try simp at this); omega
    have HQ := Lib.hid (qutL_0 hc)
    have HC0 := Lib.hid hc
    have hmu := fun i j hi hj => muK_lt hmon i j hi hj
    have hm1 := mon_pos hmon
    obtain ⟨b2, rfl, hb2, hrg⟩ := hia.resolve_left (by simp)
    have hrg0 := hrg 0 (by simp)
    rw [show [X].getD 0 [] = X from rfl, Nat.zero_mul] at hrg0
    have hcx30 : (acl X).length = 30 := acl_len (by rw [hlen]; exact hle)
    have hix : (Try.prog.info? 64).map (·.size) = some (acl X).length := by rw [hcx30]; exact size_arr
    have hu := Try.underlying64
    have HFR := Lib.hid fun a c w => firsts_any (elsK L).length hle X hclx a c w
    have HCX : Hid (ac X = (acl X).toArray) := Lib.hid rfl
    rw [HCX.out] at HFR
    have HFE : Hid ((frs X (elsK L).length).map (fun x : Nat => (x : Int)) = frI X (elsK L).length) := Lib.hid rfl
    rw [HFE.out] at HFR
    clear HCX HFE
    have HFL := Lib.hid (frI_len X (elsK L).length)
    have hrk : rkK (tL X) (elsK L).length ≤ (elsK L).length := rkK_le _ _
    have hrk1 := rkK_pos (tL X) (elsK L).length (by omega)
    have HX1 : Hid (w1.heap[w.heap.size]? = some (.cells #[.slice ax X.length cx] 26 (0, 0))) := Lib.hid ((hb.block _ (by simp; omega)).trans ((HB2.out.block _ (by omega)).trans HBX.out))
    have HTL := Lib.hid fun bx b6 b9 K aT aF cT cF n hn z h3 h6 h9 hx ht hf => qut_tells (elsK L).length hle (muK (fst0 L) (elsK L)) hmu X hlen bx b6 b9 K ax aT aF cx cT cF n hn z h3 h6 h9 hx ht hf
    have HTB := Lib.hid htb
    have HRX1 := Lib.hid ((HRX.out.below HB2.out).below hb)
    clear hb hc hcl hmon htb HS hrg hia hclx hcgx
    generalize muK (fst0 L) (elsK L) = mu at *
    generalize (elsK L).length = m at *
    rw [hlen] at HX1
    obtain ⟨n, hn⟩ : ∃ n, n = rkK (tL X) m := ⟨_, rfl⟩
    rw [← hn] at hrk hrk1 HQ HFL
    have HN := Lib.hid hn
    clear hn
    obtain ⟨wt, hwt⟩ : ∃ wt, wt = w1.alloc (.cells #[.slice a1 m c1] 58) := ⟨_, rfl⟩
    have HBt : Hid (Below w1.heap.size w1 wt) := Lib.hid (by rw [hwt]; exact (Below.refl _ _).alloc (Nat.le_refl _) _)
    have HXt : Hid (wt.heap[w1.heap.size]? = some (.cells #[.slice a1 m c1] 58 (0, 0))) := Lib.hid (by rw [hwt]; exact halloc_at _ _ _ rfl)
    have hlt : w1.heap.size < wt.heap.size := (Array.getElem?_eq_some_iff.1 HXt.out).1
    have d0 := Joins.cell_of_block HXt.out 0
    simp only [List.getElem?_toArray, List.getElem?_cons_zero] at d0
    have hrg1 := rangeAt_below hrg0 hb2 HBt.out
    generalize acl X = xs at *
    go_upto_region 4 with fail
    rw [← hwt]
    clear hwt
    have hz01 : (0 : Int) < 1 := by decide
    have HK : Hid (∀ z, Below wt.heap.size wt z → (z.cell? ⟨w1.heap.size, 0, none⟩ = some (.slice a1 m c1) ∧ z.rangeAt b2 0 xs) ∧ Below wt.heap.size wt z) := Lib.hid fun z hz => ⟨⟨(hz.cell (p := ⟨w1.heap.size, 0, none⟩) hlt).trans d0, rangeAt_below hrg1 (by omega) hz⟩, hz⟩
    have hB1 : w1.heap.size ≤ wt.heap.size := by omega
    obtain ⟨R9, hR9⟩ : ∃ R9, R9 = frI X m := ⟨_, rfl⟩
    have HR9 := Lib.hid hR9
    rw [← hR9] at HFL HFR
    clear hR9
    go_cut [9] from 21 to 25 (fun s9 wx => ∃ (b9 : Nat) (a3 : Option Addr) (c3 : Nat), s9 = .pointer (some ⟨b9, 0, none⟩) ∧ wx.heap[b9]? = some (.cells #[.slice a3 n c3] 26 (0, 0)) ∧ InRow wx a3 R9 ∧ Below wt.heap.size wt wx)
    case first =>
      refine wp_region_held_drew (S := fun w' => (w'.cell? ⟨w1.heap.size, 0, none⟩ = some (.slice a1 m c1) ∧ w'.rangeAt b2 0 xs) ∧ Below wt.heap.size wt w') (by kernel_rfl) (HK.out _ (Below.refl _ _).drew) (fun hHeld => ?_)
      refine wpAnyH_take (i := 0) (v := .slice a1 m c1) rfl (by kernel_rfl) (by kernel_rfl) (by kernel_rfl) (fun _ _ _ h => h) (Or.inl ⟨by rfl, fun w hSw => by have := hSw.1.1; go_simp⟩) hHeld ?_
      simp only [Act.put, List.setIfInBounds_toArray, List.set_cons_zero, List.set_cons_succ, List.getElem_cons_zero, List.getElem_toArray]
      refine wpAnyH_take (i := 1) (v := .slice (some ⟨b2, 0, none⟩) 1 c2) rfl (by kernel_rfl) (by kernel_rfl) (by kernel_rfl) (fun _ _ _ h => h) (Or.inl ⟨by rfl, fun w hSw => by rfl⟩) hHeld ?_
      simp only [Act.put, List.setIfInBounds_toArray, List.set_cons_zero, List.set_cons_succ, List.getElem_cons_zero, List.getElem_cons_succ, List.getElem_toArray]
      refine wpAnyH_take (i := 2) (v := .pointer (some ⟨b2, 0, none⟩)) rfl (by kernel_rfl) (by kernel_rfl) (by kernel_rfl) (fun _ _ _ h => h) (Or.inl ⟨by rfl, fun w hSw => by go_simp⟩) hHeld ?_
      simp only [Act.put, List.setIfInBounds_toArray, List.set_cons_zero, List.set_cons_succ, List.getElem_cons_zero, List.getElem_cons_succ, List.getElem_toArray]
      refine wpAnyH_take (i := 3) (v := .agg xs.toArray) rfl (by kernel_rfl) (by kernel_rfl) (by kernel_rfl) (fun _ _ _ h => h) (yieldsIf_load_mid (by rfl) _ _ rfl _ _ rfl xs _ (fun w hSw => hSw.1.2) hu rfl hix) hHeld ?_
      simp only [Act.put, List.setIfInBounds_toArray, List.set_cons_zero, List.set_cons_succ, List.getElem_cons_zero, List.getElem_cons_succ, List.getElem_toArray]
      refine wpAnyH_ready (rs := [4, 5]) (by kernel_rfl) (by simp) ?_
      refine AllReadyH.cons rfl (fun K hK => ?_) (AllReadyH.cons rfl (fun K hK => ?_) AllReadyH.nil)
      · go_simp
        refine (HFR.out _ _ _).mono ?_
        rintro e w2 ⟨v, rfl, hown, hb2⟩
        have HB2 : Hid (Below wt.heap.size wt w2) := Lib.hid ((Below.refl wt.heap.size wt).drew.trans hb2)
        obtain ⟨a3, c3, rfl, hrd⟩ := own_rd hown (by rw [HFL.out]; omega)
        have hs2 := HB2.out.size
        have HRA := Lib.hid (hrd.inRow.below ((Below.refl _ _).alloc (Nat.le_refl _) (.cells #[.slice a3 R9.length c3] 26)))
        clear hown hb2 hrd
        refine hK.out _ _ (HK.out _ HB2.out) (fun hHeld => ?_)
        clear hK K
        (try simp only [Act.put, List.setIfInBounds_toArray, List.set_cons_zero, List.set_cons_succ, List.getElem_cons_zero, List.getElem_cons_succ, List.getElem_toArray])
        refine wpAnyH_ready (rs := [5]) (by kernel_rfl) (by simp) ?_
        refine AllReadyH.cons rfl (fun K hK => ?_) AllReadyH.nil
        go_simp
        refine hK.out _ _ (HK.out _ (HB2.out.alloc hs2 _)) (fun hHeld => ?_)
        clear hK K
        (try simp only [Act.put, List.setIfInBounds_toArray, List.set_cons_zero, List.set_cons_succ, List.getElem_cons_zero, List.getElem_cons_succ, List.getElem_toArray])
        refine wpAnyH_ready (rs := [6]) (by kernel_rfl) (by simp) ?_
        refine AllReadyH.cons rfl (fun K hK => ?_) AllReadyH.nil
        go_simp
        refine hK.out _ _ (HK.out _ (HB2.out.alloc hs2 _)) (fun hHeld => ?_)
        clear hK K
        (try simp only [Act.put, List.setIfInBounds_toArray, List.set_cons_zero, List.set_cons_succ, List.getElem_cons_zero, List.getElem_cons_succ, List.getElem_toArray])
        refine wpAnyH_done (by kernel_rfl) ?_ _
        go_wp2_with fail
        go_meet
        exact ⟨w2.heap.size, a3, c3, rfl, by rw [← HFL.out]; exact halloc_at _ _ _ rfl, HRA.out, HB2.out.alloc hs2 _⟩
      · go_simp
        have hba : Below wt.heap.size wt (wt.alloc (.cells #[.slice none 0 0] 26)).drew := ((Below.refl wt.heap.size wt).alloc (Nat.le_refl _) _).drew
        have hg9 : (wt.alloc (.cells #[.slice none 0 0] 26)).drew.heap[wt.heap.size]? = some (.cells #[.slice none 0 0] 26 (0, 0)) := halloc_at _ _ _ rfl
        have hl9 := (Array.getElem?_eq_some_iff.1 hg9).1
        have HBA := Lib.hid hba
        refine hK.out _ _ (HK.out _ hba) (fun hHeld => ?_)
        clear hK K
        (try simp only [Act.put, List.setIfInBounds_toArray, List.set_cons_zero, List.set_cons_succ, List.getElem_cons_zero, List.getElem_cons_succ, List.getElem_toArray])
        refine wpAnyH_ready (rs := [4]) (by kernel_rfl) (by simp) ?_
        refine AllReadyH.cons rfl (fun K hK => ?_) AllReadyH.nil
        go_simp
        refine (HFR.out _ _ _).mono ?_
        rintro e w2 ⟨v, rfl, hown, hb2⟩
        have HB2 : Hid (Below wt.heap.size wt w2) := Lib.hid (HBA.out.trans (hb2.mono HBA.out.size))
        obtain ⟨a3, c3, rfl, hrd⟩ := own_rd hown (by rw [HFL.out]; omega)
        have hg9 := (hb2.block _ hl9).trans hg9
        have e9 := Joins.cell_of_block hg9 0
        have f9 := Joins.unfrozen_of_block hg9 0
        simp only [List.getElem?_toArray, List.getElem?_cons_zero] at e9
        have HRA := Lib.hid fun v => rd_set6 (v := v) hrd hl9
        have HG9 := Lib.hid hg9
        clear hown hb2 hrd hg9
        refine hK.out _ _ (HK.out _ HB2.out) (fun hHeld => ?_)
        clear hK K
        (try simp only [Act.put, List.setIfInBounds_toArray, List.set_cons_zero, List.set_cons_succ, List.getElem_cons_zero, List.getElem_cons_succ, List.getElem_toArray])
        refine wpAnyH_ready (rs := [6]) (by kernel_rfl) (by simp) ?_
        refine AllReadyH.cons rfl (fun K hK => ?_) AllReadyH.nil
        go_simp
        refine hK.out _ _ (HK.out _ (HB2.out.setCell (Nat.le_refl _) _)) (fun hHeld => ?_)
        clear hK K
        (try simp only [Act.put, List.setIfInBounds_toArray, List.set_cons_zero, List.set_cons_succ, List.getElem_cons_zero, List.getElem_cons_succ, List.getElem_toArray])
        refine wpAnyH_done (by kernel_rfl) ?_ _
        go_wp2_with fail
        go_meet
        exact ⟨wt.heap.size, a3, c3, rfl, by rw [← HFL.out]; exact Joins.block_setCell HG9.out _, HRA.out _, HB2.out.setCell (Nat.le_refl _) _⟩
    case rest =>
      obtain ⟨b9, a3, c3, rfl, h9, hf9, hb9⟩ := hcut
      have hxw : w.heap.size < wt.heap.size := by omega
      have hx9 := (hb9.block _ hxw).trans ((HBt.out.block _ (by omega)).trans HX1.out)
      have ht9 := (hb9.block _ hlt).trans HXt.out
      have hs9 := hb9.size
      have htb9 := (HTB.out.below (HBt.out.mono HTB.out.hK)).below (hb9.mono (Nat.le_trans HTB.out.hK (by omega)))
      have htl := HTL.out w.heap.size w1.heap.size b9 _ _ a3 c1 c3 n HN.out wc hx9 ht9 h9 ((HRX1.out.below HBt.out).below hb9) htb9 (by rw [← HR9.out]; exact hf9)
      have HTY := Lib.hid (tby_any n hrk1 (by omega) (qF m mu X) qut_enters wc htl)
      have HBW : Hid (Below w.heap.size w wc) := Lib.hid (HB.out.trans ((HBt.out.mono hs1).trans (hb9.mono (by omega))))
      have e9 := Joins.cell_of_block h9 0
      simp only [List.getElem?_toArray, List.getElem?_cons_zero] at e9
      have HLN := Lib.hid (tbL_len (qF m mu X) n n)
      have HMK := Lib.hid (mkF_tb300 (qF m mu X) (n := n) (by omega))
      have hwc := HBW.out.size
      clear hx9 ht9 htb9 htl hb9 hf9 h9 d0
      generalize tbL (qF m mu X) n n = TT at *
      go_wp2_with fail
      refine HTY.out.mono ?_
      rintro e w5 ⟨a5, c5, rfl, hrd, hb5⟩
      have HRD := Lib.hid hrd
      have HB5 : Hid (Below w.heap.size w w5) := Lib.hid (HBW.out.trans (hb5.mono hwc))
      clear hrd hb5
      go_wp2_with fail
      go_ret2
      rw [HQ.out, HC0.out]
      exact retT_of HLN.out HRD.out hwc HMK.out HB5.out

end Go.Proofs.Ytoagpklippdlmaa
