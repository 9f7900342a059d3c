/- Least points of cycles, told without Go. -/
import Derived.Test.YtpphihjbgikjkaaCyc
import Derived.Test.YtpphihjbgikjkaaIp
namespace Go.Proofs.Ytpphihjbgikjkaa
open Go Go.RowKit

theorem orb_stp (t : Nat → Int) (k x : Nat) : orb t (k + 1) x = stp t (orb t k x) := rfl
theorem orb_mul {t : Nat → Int} {c L : Nat} (h : orb t L c = c) : ∀ q, orb t (L * q) c = c
  | 0 => rfl
  | q + 1 => by rw [Nat.mul_succ, orb_add, orb_mul h q, h]
theorem orb_mod {t : Nat → Int} {c L : Nat} (h : orb t L c = c) (i : Nat) : orb t i c = orb t (i % L) c := by
  have e : L * (i / L) + i % L = i := Nat.div_add_mod i L
  calc orb t i c = orb t (L * (i / L) + i % L) c := by rw [e]
    _ = orb t (i % L) c := by rw [orb_add, orb_mul h]
theorem cyc_60 {p : Int} {t : Nat → Int} (h : isB p t = true) {x : Nat} (hx : (x : Int) < p) : orb t 60 (orb t 60 x) = orb t 60 x := by
  have := orb_60 h x hx
  rw [show (120 : Nat) = 60 + 60 from rfl, orb_add] at this
  exact this

/-- The least of the points that steps from c lead to. -/
def Lst (t : Nat → Int) (c : Nat) (m : Int) : Prop := (∃ j, m = (orb t j c : Int)) ∧ ∀ j, m ≤ (orb t j c : Int)
theorem lst_one {t : Nat → Int} {c : Nat} {m m' : Int} (h : Lst t c m) (h' : Lst t c m') : m = m' := by
  obtain ⟨⟨j, hj⟩, h2⟩ := h
  obtain ⟨⟨i, hi⟩, h3⟩ := h'
  have := h2 i
  have := h3 j
  omega
def itL (t : Nat → Int) (c n : Nat) : List Int := (List.range n).map fun j => (orb t j c : Int)
theorem itL_len (t : Nat → Int) (c n : Nat) : (itL t c n).length = n := by simp [itL]
theorem itL_at (t : Nat → Int) (c n k : Nat) (h : k < n) : (itL t c n).getD k 0 = (orb t k c : Int) := by simp [itL, h]
theorem itL_in {t : Nat → Int} {c n : Nat} {x : Int} (h : x ∈ itL t c n) : ∃ j, x = (orb t j c : Int) := by
  obtain ⟨j, _, rfl⟩ := List.mem_map.1 h
  exact ⟨j, rfl⟩
theorem mnK_lst {t : Nat → Int} {c n L : Nat} (hL : 1 ≤ L) (hn : L ≤ n) (h : orb t L c = c) : Lst t c (mnK (itL t c n) (L - 1)) := by
  refine ⟨itL_in (mnK_in _ _ (by rw [itL_len]; omega)), fun j => ?_⟩
  rw [orb_mod h j]
  have hm := Nat.mod_lt j hL
  have := mnK_le (itL t c n) (L - 1) (j % L) (by omega)
  rw [itL_at _ _ _ _ (by omega)] at this
  exact this
/-- The least point of the cycle of c. -/
def bsF (t : Nat → Int) (c : Nat) : Int := mnK (itL t c 61) 59
theorem bsF_lst {t : Nat → Int} {c : Nat} (h : orb t 60 c = c) : Lst t c (bsF t c) := mnK_lst (L := 60) (by omega) (by omega) h
theorem bsF_bd {p : Int} {t : Nat → Int} (hf : isB p t = true) {c : Nat} (hc : (c : Int) < p) (h : orb t 60 c = c) : 0 ≤ bsF t c ∧ bsF t c < p := by
  obtain ⟨⟨j, hj⟩, _⟩ := bsF_lst h
  have := orb_lt hf j c hc
  omega

theorem orbt_mem {t : Nat → Int} {P : Nat → Prop} {c : Nat} {E : List Nat} (h : Orbt (fun _ x => stp t x) 1 P c E) (x : Nat) : x ∈ E ↔ ∃ j, x = orb t j c := by
  constructor
  · exact h.least (fun x => ∃ j, x = orb t j c) ⟨0, rfl⟩ (fun x ⟨j, e⟩ _ _ _ => ⟨j + 1, by rw [orb_stp, ← e]⟩) x
  · rintro ⟨j, rfl⟩
    induction j with
    | zero => exact h.first
    | succ j ih => exact h.closed _ ih 0 (by omega)
theorem orbt_min {t : Nat → Int} {P : Nat → Prop} {c : Nat} {E : List Nat} (h : Orbt (fun _ x => stp t x) 1 P c E) (h60 : orb t 60 c = c) : mnL (inL E) = bsF t c := by
  refine lst_one ?_ (bsF_lst h60)
  have hne : inL E ≠ [] := fun e => by
    have := h.first
    have h2 : E = [] := by unfold inL at e; exact List.map_eq_nil_iff.1 e
    rw [h2] at this; cases this
  refine ⟨?_, fun j => mnL_le _ _ ?_⟩
  · obtain ⟨x, hx, e⟩ := List.mem_map.1 (mnL_in hne)
    obtain ⟨j, rfl⟩ := (orbt_mem h x).1 hx
    exact ⟨j, e.symm⟩
  · exact List.mem_map.2 ⟨_, (orbt_mem h _).2 ⟨j, rfl⟩, rfl⟩

/-- The least points of the cycles to which the first k points come. -/
def bsL (t : Nat → Int) (k : Nat) : List Int := (List.range k).map fun x => bsF t (orb t 60 x)
theorem bsL_len (t : Nat → Int) (k : Nat) : (bsL t k).length = k := by simp [bsL]
theorem bsL_succ (t : Nat → Int) (k : Nat) : bsL t (k + 1) = bsL t k ++ [bsF t (orb t 60 k)] := by simp [bsL, List.range_succ]
theorem bsL_at (t : Nat → Int) (k j : Nat) (h : j < k) : (bsL t k).getD j 0 = bsF t (orb t 60 j) := by simp [bsL, h]
def bsR (p : Int) (t : Nat → Int) : List Int := if isB p t = true then bsL t p.toNat else []
theorem bsR_yes {p : Int} {t : Nat → Int} (h : isB p t = true) : bsR p t = bsL t p.toNat ∧ ipC p t = 0 := by unfold bsR ipC; rw [if_pos h, if_pos h]; exact ⟨rfl, rfl⟩
theorem bsR_no {p : Int} {t : Nat → Int} (h : isB p t = false) : bsR p t = [] ∧ ipC p t = 1 := by
  unfold bsR ipC; rw [if_neg (by rw [h]; exact Bool.false_ne_true), if_neg (by rw [h]; exact Bool.false_ne_true)]; exact ⟨rfl, rfl⟩

/-- The least of an orbit of numbers. -/
theorem iolb_any {t : Nat → Int} {n : Nat} {c : Nat} {E : List Nat} (h : Orbt (fun _ x => stp t x) 1 (fun x => x < n) c E) (h60 : orb t 60 c = c) (hn : n ≤ 5) (a : Option Addr) (cap : Nat) (w : World) (hr : InRow w a (inL E)) :
    Calls Try.prog 52 #[.agg #[.slice a E.length cap], .func (.func 32) #[] #[]] w fun e w' => e = .returned (.int .i64 (bsF t c)) ∧ Below w.heap.size w w' := by
  have hb := nodup_bound n E h.nd h.vl
  have hne : inL E ≠ [] := fun e => by
    have := h.first
    have h2 : E = [] := by unfold inL at e; exact List.map_eq_nil_iff.1 e
    rw [h2] at this; cases this
  have := iole_any (inL E) hne (by rw [inL_len]; omega) a cap w hr
  rw [inL_len, orbt_min h h60] at this
  exact this
end Go.Proofs.Ytpphihjbgikjkaa
