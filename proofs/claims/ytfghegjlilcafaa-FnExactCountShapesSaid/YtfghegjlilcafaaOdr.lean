/- All permutations in order: the contract of spec.l09Orders. -/
import Derived.Test.YtfghegjlilcafaaPrm
import Derived.Test.YtfghegjlilcafaaCni
namespace Go.Proofs.Ytfghegjlilcafaa
open Go Go.RowKit

def rowN (r : List Nat) : List Int := r.map fun x : Nat => (x : Int)
theorem rowN_len (r : List Nat) : (rowN r).length = r.length := by unfold rowN; rw [List.length_map]
theorem rowN_at (r : List Nat) (i : Nat) (h : i < r.length) : (rowN r).getD i 0 = ((r.getD i 0 : Nat) : Int) := by
  unfold rowN
  rw [List.getD_eq_getElem?_getD, List.getElem?_map, List.getElem?_eq_getElem h, List.getD_eq_getElem?_getD, List.getElem?_eq_getElem h]
  rfl
theorem rowN_app (r : List Nat) (x : Nat) : rowN (r ++ [x]) = rowN r ++ [(x : Int)] := by simp [rowN]

/-- The orders that go on from a list, with c points more. -/
def orR (n : Nat) : Nat → List Nat → List Nat
  | 0, L => [ecd (tL (rowN L))]
  | c + 1, L => (List.range n).flatMap fun q => if L.contains q then [] else orR n c (L ++ [q])
/-- Those that go on with a point below k. -/
def acO (n c : Nat) (L : List Nat) (k : Nat) : List Nat := (List.range k).flatMap fun q => if L.contains q then [] else orR n c (L ++ [q])
theorem acO_0 (n c : Nat) (L : List Nat) : acO n c L 0 = [] := rfl
theorem acO_succ (n c : Nat) (L : List Nat) (k : Nat) : acO n c L (k + 1) = acO n c L k ++ (if L.contains k then [] else orR n c (L ++ [k])) := by
  unfold acO
  rw [List.range_succ, List.flatMap_append]
  simp
theorem acO_all (n c : Nat) (L : List Nat) : acO n c L n = orR n (c + 1) L := rfl
theorem flat_le {g : Nat → List Nat} {B : Nat} (hg : ∀ i, (g i).length ≤ B) : ∀ l : List Nat, (l.flatMap g).length ≤ l.length * B
  | [] => by simp
  | x :: l => by
    have := flat_le hg l
    have h2 := hg x
    rw [List.flatMap_cons, List.length_append, List.length_cons, Nat.succ_mul]
    omega
theorem orR_le {n : Nat} (hn : n ≤ 5) : ∀ c L, (orR n c L).length ≤ 5 ^ c
  | 0, _ => by simp [orR]
  | c + 1, L => by
    have h := flat_le (g := fun q => if L.contains q then [] else orR n c (L ++ [q])) (B := 5 ^ c) (fun i => by
      show (if L.contains i then [] else orR n c (L ++ [i])).length ≤ _
      split
      · simp
      · exact orR_le hn c _) (List.range n)
    rw [List.length_range] at h
    rw [Nat.pow_succ, Nat.mul_comm]
    exact Nat.le_trans h (Nat.mul_le_mul_right _ hn)
theorem acO_le {n : Nat} (hn : n ≤ 5) (c : Nat) (L : List Nat) (k : Nat) (hk : k ≤ 5) : (acO n c L k).length ≤ 5 ^ (c + 1) := by
  have h := flat_le (g := fun q => if L.contains q then [] else orR n c (L ++ [q])) (B := 5 ^ c) (fun i => by
    show (if L.contains i then [] else orR n c (L ++ [i])).length ≤ _
    split
    · simp
    · exact orR_le hn c _) (List.range k)
  rw [List.length_range] at h
  rw [Nat.pow_succ, Nat.mul_comm]
  exact Nat.le_trans h (Nat.mul_le_mul_right _ hk)
theorem or_ol : ((List.range 5).all fun n => orR (n + 1) (n + 1) [] == olN (n + 1)) = true := by decide +kernel
theorem orR_ol {n : Nat} (h1 : 1 ≤ n) (h5 : n ≤ 5) : orR n n [] = olN n := by
  have := all5 (P := fun n => orR n n [] == olN n) or_ol h1 h5
  simpa using this

theorem leaf_ok {n : Nat} (h1 : 1 ≤ n) (h5 : n ≤ 5) {L : List Nat} (hl : L.length = n) (hL : ∀ x, x ∈ L → x < n) : isB (n : Int) (tL (rowN L)) = true := by
  rw [isB_true]
  refine ⟨by omega, by omega, fun i hi => ?_⟩
  unfold okAt tL
  by_cases h : i < L.length
  · rw [rowN_at L i h]
    have := hL (L.getD i 0) (getD_in i h)
    exact ⟨fun _ => by omega, fun _ => by omega⟩
  · refine ⟨fun _ => by omega, fun _ => ?_⟩
    rw [List.getD_eq_getElem?_getD, List.getElem?_eq_none (by rw [rowN_len]; omega)]
    rfl

/-- Whether a number is among the first k. -/
def knK (L : List Nat) (q : Nat) : Nat → Bool
  | 0 => false
  | k + 1 => knK L q k || (((L.getD k 0 : Nat) : Int) == (q : Int))
theorem knK_all (L : List Nat) (q : Nat) : knK L q L.length = L.contains q := by
  have h : ∀ k, k ≤ L.length → (knK L q k = true ↔ ∃ j, j < k ∧ L.getD j 0 = q) := by
    intro k
    induction k with
    | zero => intro _; simp [knK]
    | succ k ih =>
      intro hk
      unfold knK
      rw [Bool.or_eq_true, ih (by omega)]
      constructor
      · rintro (⟨j, hj, e⟩ | e)
        · exact ⟨j, by omega, e⟩
        · exact ⟨k, by omega, by have := eq_of_beq e; omega⟩
      · rintro ⟨j, hj, e⟩
        by_cases hjk : j = k
        · subst hjk; exact Or.inr (by rw [e]; simp)
        · exact Or.inl ⟨j, by omega, e⟩
  rw [Bool.eq_iff_iff, h _ (Nat.le_refl _), List.contains_iff_mem]
  constructor
  · rintro ⟨j, hj, rfl⟩; exact getD_in j hj
  · intro hm
    obtain ⟨j, hj, e⟩ := List.getElem_of_mem hm
    exact ⟨j, hj, by rw [List.getD_eq_getElem?_getD, List.getElem?_eq_getElem hj]; exact e⟩

theorem ownM_rdc {w : World} {B : Nat} {v : Value} {L : List MapN} (h : OwnM w B v L) (hL : L.length ≤ 2000000) : ∃ a cap, v = .slice a L.length cap ∧ RdM w B a L ∧ (a = none → cap = 0) := by
  obtain ⟨a, cap, hv, hr⟩ := ownM_rd h hL
  refine ⟨a, cap, hv, hr, fun e => ?_⟩
  rcases h.2 with ⟨h1, _⟩ | ⟨g, c2, cur, h1, _⟩
  · rw [hv] at h1
    injection h1 with _ _ h3
  · rw [hv, e] at h1
    injection h1 with h1 _ _
    cases h1

/-- A list of points lies at the front of a block. -/
def FrN (w : World) (g : Nat) (L : List Nat) : Prop := g < w.heap.size ∧ ∀ i, i < L.length → w.cell? ⟨g, i, none⟩ = some (.int .i64 ((L.getD i 0 : Nat) : Int))
theorem FrN.below {w w' : World} {g : Nat} {L : List Nat} (h : FrN w g L) (hb : Below w.heap.size w w') : FrN w' g L :=
  ⟨by have := hb.size; have := h.1; omega, fun i hi => (hb.cell (p := ⟨g, i, none⟩) h.1).trans (h.2 i hi)⟩

set_option maxRecDepth 100000 in
set_option maxHeartbeats 2000000 in
theorem sord_zero (n : Nat) (h1 : 1 ≤ n) (h5 : n ≤ 5) (L : List Nat) (hl : L.length = n) (hL : ∀ x, x ∈ L → x < n) (g cap : Nat) (w : World) (h : FrN w g L) :
    Calls Try.prog 70 #[.int .i64 (n : Int), .slice (some ⟨g, 0, none⟩) L.length cap] w (RetOwnM w.heap.size (moL (n : Int) (orR n 0 L)) w) := by
  have hok := leaf_ok h1 h5 hl hL
  have hr : InRow w (some ⟨g, 0, none⟩) (rowN L) := Or.inr ⟨g, 0, rfl, h.1, fun i hi => by rw [rowN_len] at hi; rw [Nat.zero_add, rowN_at L i hi]; exact h.2 i hi⟩
  have HM := made_any (rowN L) (by rw [rowN_len]; omega) (by rw [rowN_len]; omega) (some ⟨g, 0, none⟩) cap w hr
  rw [rowN_len, hl] at HM
  have HM := Lib.hid HM
  have hc := mcells_ecd hok
  have HC : Hid (moL (n : Int) (orR n 0 L) = [((n : Int), dcd (ecd (tL (rowN L))))]) := Lib.hid rfl
  rw [HC.out, hl]
  have HCC := Lib.hid hc
  clear hr h hok hL hc hl HC
  generalize ecd (tL (rowN L)) = c at *
  generalize tL (rowN L) = t at *
  clear L
  simp only [mv, mcells] at HM
  go_enter Try.func70, Try.ntmps70
  go_wp2_with fail
  refine HM.out.mono ?_
  rintro e w2 ⟨rfl, hb⟩
  have HB := Lib.hid hb
  clear hb
  go_wp2_with fail
  go_ret
  refine ⟨_, rfl, ?_, HB.out.alloc HB.out.size _⟩
  refine ⟨rfl, Or.inr ⟨w2.heap.size, 1, mcells (n : Int) (dcd c), rfl, HB.out.size, ?_, Nat.le_refl _, by unfold maxLen; omega, rfl, rfl⟩⟩
  rw [HCC.out]
  exact halloc_at _ _ _ rfl

set_option maxRecDepth 100000 in
set_option maxHeartbeats 4000000 in
theorem sord_succ (n : Nat) (h1 : 1 ≤ n) (h5 : n ≤ 5) (c : Nat) (hc : c + 1 ≤ 5)
    (hih : ∀ (L : List Nat), L.length + c = n → (∀ x, x ∈ L → x < n) → ∀ (g cap : Nat) (w : World), FrN w g L → Calls Try.prog 70 #[.int .i64 (n : Int), .slice (some ⟨g, 0, none⟩) L.length cap] w (RetOwnM w.heap.size (moL (n : Int) (orR n c L)) w))
    (L : List Nat) (hl : L.length + (c + 1) = n) (hL : ∀ x, x ∈ L → x < n) (g cap : Nat) (w : World) (h : FrN w g L) :
    Calls Try.prog 70 #[.int .i64 (n : Int), .slice (some ⟨g, 0, none⟩) L.length cap] w (RetOwnM w.heap.size (moL (n : Int) (orR n (c + 1) L)) w) := by
  have HIH := Lib.hid hih
  have hpow : 5 ^ (c + 1) ≤ 5 ^ 5 := Nat.pow_le_pow_right (by omega) hc
  have hpow2 : 5 ^ c ≤ 5 ^ 5 := Nat.pow_le_pow_right (by omega) (by omega)
  have h55 : (5 : Nat) ^ 5 = 3125 := by decide
  rw [h55] at hpow hpow2
  have HAL := Lib.hid fun k hk => Nat.le_trans (acO_le h5 c L k hk) hpow
  have HOL := Lib.hid fun M => Nat.le_trans (orR_le h5 c M) hpow2
  have HSU := Lib.hid (acO_succ n c L)
  have HAA := Lib.hid (acO_all n c L)
  have HLL := Lib.hid hL
  have HFR := Lib.hid h
  have HKN := Lib.hid (knK_all L)
  have HOI := Lib.hid fun W => own_any g 0 L.length cap (rowN L) (rowN_len L) (by omega) W
  obtain ⟨m, hm⟩ : ∃ m, m = L.length := ⟨_, rfl⟩
  have HM := Lib.hid hm
  have hne : ((m : Int) == (n : Int)) = false := by rw [beq_eq_false_iff_ne]; omega
  have hgl := h.1
  have hm5 : m ≤ 5 := by omega
  rw [← hm] at HOI ⊢
  clear hm hih hpow hpow2 h55 hL h
  go_enter Try.func70, Try.ntmps70
  go_wp2_with fail
  go_loopw [5, 6, 7, 8] (fun v q _ _ wr => ∃ k : Nat, k ≤ n ∧ q = .int .i64 (k : Int) ∧ OwnM wr w.heap.size v (moL (n : Int) (acO n c L k)) ∧ Below w.heap.size w wr) (fun _ q _ _ _ => n - (intOf q).toNat)
  case atStart => exact ⟨0, by omega, rfl, own_empty6 (halloc_at _ _ _ rfl) (Nat.le_refl _), (Below.refl _ _).alloc (Nat.le_refl _) _⟩
  case round =>
    obtain ⟨k, hk, rfl, hown, hb⟩ := hrel
    have HO := Lib.hid hown
    have HB := Lib.hid hb
    have hsr := hb.size
    have HF2 := Lib.hid (HFR.out.below hb)
    have hal := HAL.out k (by omega)
    clear hown hb
    obtain ⟨wo, hwo⟩ : ∃ wo, wo = wr := ⟨_, rfl⟩
    subst hwo
    by_cases hkn : k < n
    · have hkn' : (k : Int) < (n : Int) := by omega
      go_wp2_with fail
      go_loop [7, 8] (fun b i => ∃ j : Nat, j ≤ m ∧ i = .int .i64 (j : Int) ∧ b = .bool (knK L k j)) (fun _ i => m - (intOf i).toNat)
      case atStart => exact ⟨0, by omega, rfl, rfl⟩
      case round =>
        obtain ⟨j, hj, rfl, rfl⟩ := hrel
        by_cases hjm : j < m
        · have hjm' : (j : Int) < (m : Int) := by omega
          have e0 := HF2.out.2 j (by rw [← HM.out]; exact hjm)
          have HK : Hid (knK L k (j + 1) = (knK L k j || (((L.getD j 0 : Nat) : Int) == (k : Int)))) := Lib.hid rfl
          generalize L.getD j 0 = x at *
          cases hkk : knK L k j
          · rw [hkk, Bool.false_or] at HK
            go_wp2_with fail
            go_round
            case rel => exact ⟨j + 1, by omega, by go_num, by rw [HK.out]⟩
            case measure => simp [intOf]; omega
          · rw [hkk, Bool.true_or] at HK
            go_wp2_with fail
            go_round
            case rel => exact ⟨j + 1, by omega, by go_num, by rw [HK.out]⟩
            case measure => simp [intOf]; omega
        · obtain rfl : j = m := by omega
          have hk1 := HKN.out k
          rw [← HM.out] at hk1
          rw [hk1]
          have HSK := HSU.out k
          cases hct : L.contains k
          · rw [hct] at HSK
            simp only [Bool.false_eq_true, if_false] at HSK
            have HSK := Lib.hid HSK
            clear hk1
            go_wp2_with fail
            refine (HOI.out wo (by have := HF2.out.1; omega) (fun i hi => by rw [Nat.zero_add, rowN_at L i (by rw [← HM.out]; exact hi)]; exact HF2.out.2 i (by rw [← HM.out]; exact hi))).mono ?_
            rintro e w2 ⟨v2, rfl, hown2, hb2⟩
            have HO2 := Lib.hid hown2
            have HB2 := Lib.hid hb2
            have hs2 := hb2.size
            clear hown2 hb2
            go_wp2_with (at_builtin; refine wpList_app9 rfl _ _ rfl wo.heap.size _ (rowN L) rfl (HO2.out.alloc _) w2.heap.size 1 (k : Int) rfl (halloc_at _ _ _ rfl) (by rw [rowN_len, ← HM.out]; omega) (by simp; omega) ?_; intro v3 w3 ho3 hg3 _)
            have hb3 : Below wo.heap.size wo w3 := (HB2.out.alloc HB2.out.size _).grown hg3 (by simp; omega) (fun r e => (HO2.out.lt r e).1)
            have HB3 := Lib.hid hb3
            have hs3 := hb3.size
            rw [← rowN_app] at ho3
            have hl3 : (L ++ [k]).length = j + 1 := by rw [List.length_append, ← HM.out]; rfl
            obtain ⟨a3, cap3, rfl, hrd3⟩ := own_rd ho3 (by rw [rowN_len]; omega)
            obtain ⟨g3, rfl, _, hg3l, hc3⟩ := hrd3.2.resolve_left (fun e => by have := congrArg List.length e; rw [rowN_len, hl3] at this; simp at this)
            have hfr3 : FrN w3 g3 (L ++ [k]) := ⟨hg3l, fun i hi => by rw [(hc3 i (by rw [rowN_len]; exact hi)).1, rowN_at _ _ hi]⟩
            have HI3 := Lib.hid (HIH.out (L ++ [k]) (by rw [hl3]; have := HM.out; omega) (fun x hx => by rcases List.mem_append.1 hx with h | h; exact HLL.out x h; have := List.mem_singleton.1 h; omega) g3 cap3 w3 hfr3)
            rw [rowN_len]
            have hol := HOL.out (L ++ [k])
            have HL3 := Lib.hid hl3
            rw [hl3] at HI3 ⊢
            generalize orR n c (L ++ [k]) = R at *
            clear ho3 hg3 hb3 hrd3 hc3 hfr3 hl3
            go_wp2_with fail
            refine HI3.out.mono ?_
            rintro e w4 ⟨v4, rfl, hown4, hb4⟩
            have hs4 := hb4.size
            have HB4 : Hid (Below wo.heap.size wo w4) := Lib.hid (HB3.out.trans (hb4.mono HB3.out.size))
            obtain ⟨a4, cap4, rfl, hrd4, hz4⟩ := ownM_rdc hown4 (by rw [moL_len]; omega)
            have HZ4 := Lib.hid hz4
            have HR4 := Lib.hid hrd4
            have HO4 := Lib.hid (OwnM.bel HO.out HB4.out)
            clear hown4 hb4 hrd4 hz4
            go_wp2_with (at_builtin; refine wpList_appM rfl _ _ rfl w.heap.size _ (moL (n : Int) (acO n c L k)) rfl HO4.out a4 cap4 (moL (n : Int) R) HZ4.out rfl HR4.out.inRow (by rw [moL_len, moL_len]; omega) (by omega) ?_; intro v5 w5 hown5 hgrow5)
            have hb5 : Below w.heap.size w w5 := (HB.out.trans (HB4.out.mono hsr)).grown hgrow5 (by have := HB4.out.size; omega) (fun r e => (HO4.out.lt r e).1)
            refine ⟨⟨k + 1, by omega, by go_num, ?_, hb5⟩, by simp [intOf]; omega⟩
            rw [HSK.out]
            unfold moL at hown5 ⊢
            rw [List.map_append]
            exact hown5
          · rw [hct, if_pos rfl, List.append_nil] at HSK
            have HSK := Lib.hid HSK
            clear hk1
            go_wp2_with fail
            go_roundw
            case rel => exact ⟨k + 1, by omega, by go_num, by rw [HSK.out]; exact HO.out, HB.out⟩
            case measure => simp [intOf]; omega
    · obtain rfl : k = n := by omega
      have hkn' : ¬ ((k : Int) < (k : Int)) := by omega
      rw [HAA.out] at HO
      go_wp2_with fail
      go_ret
      exact ⟨_, rfl, HO.out, HB.out⟩

end Go.Proofs.Ytfghegjlilcafaa
