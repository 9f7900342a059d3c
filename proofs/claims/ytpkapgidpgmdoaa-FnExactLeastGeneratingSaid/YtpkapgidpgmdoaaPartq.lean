/- All sets of numbers below n, those with fewer numbers first; the contract of impl.partsOfNumbers. -/
import Derived.Test.YtpkapgidpgmdoaaParts
import Derived.Test.YtpkapgidpgmdoaaMeet
namespace Go.Proofs.Ytpkapgidpgmdoaa
open Go.RowKit Go.Maps

/-- All ascending lists of the numbers below n, by lengths and lexicographically. -/
def alP : Nat → List (List Nat)
  | 0 => [[]]
  | 1 => [[], [0]]
  | 2 => [[], [0], [1], [0, 1]]
  | 3 => [[], [0], [1], [2], [0, 1], [0, 2], [1, 2], [0, 1, 2]]
  | 4 => [[], [0], [1], [2], [3], [0, 1], [0, 2], [0, 3], [1, 2], [1, 3], [2, 3], [0, 1, 2], [0, 1, 3], [0, 2, 3], [1, 2, 3], [0, 1, 2, 3]]
  | 5 => [[], [0], [1], [2], [3], [4], [0, 1], [0, 2], [0, 3], [0, 4], [1, 2], [1, 3], [1, 4], [2, 3], [2, 4], [3, 4], [0, 1, 2], [0, 1, 3], [0, 1, 4], [0, 2, 3], [0, 2, 4], [0, 3, 4], [1, 2, 3], [1, 2, 4], [1, 3, 4], [2, 3, 4], [0, 1, 2, 3], [0, 1, 2, 4], [0, 1, 3, 4], [0, 2, 3, 4], [1, 2, 3, 4], [0, 1, 2, 3, 4]]
  | 6 => [[], [0], [1], [2], [3], [4], [5], [0, 1], [0, 2], [0, 3], [0, 4], [0, 5], [1, 2], [1, 3], [1, 4], [1, 5], [2, 3], [2, 4], [2, 5], [3, 4], [3, 5], [4, 5], [0, 1, 2], [0, 1, 3], [0, 1, 4], [0, 1, 5], [0, 2, 3], [0, 2, 4], [0, 2, 5], [0, 3, 4], [0, 3, 5], [0, 4, 5], [1, 2, 3], [1, 2, 4], [1, 2, 5], [1, 3, 4], [1, 3, 5], [1, 4, 5], [2, 3, 4], [2, 3, 5], [2, 4, 5], [3, 4, 5], [0, 1, 2, 3], [0, 1, 2, 4], [0, 1, 2, 5], [0, 1, 3, 4], [0, 1, 3, 5], [0, 1, 4, 5], [0, 2, 3, 4], [0, 2, 3, 5], [0, 2, 4, 5], [0, 3, 4, 5], [1, 2, 3, 4], [1, 2, 3, 5], [1, 2, 4, 5], [1, 3, 4, 5], [2, 3, 4, 5], [0, 1, 2, 3, 4], [0, 1, 2, 3, 5], [0, 1, 2, 4, 5], [0, 1, 3, 4, 5], [0, 2, 3, 4, 5], [1, 2, 3, 4, 5], [0, 1, 2, 3, 4, 5]]
  | _ => []

theorem alP_parts (n : Nat) (hn : n ≤ 6) : alP n = (List.range (n + 1)).flatMap fun c => partsR n c 0 := by
  rcases (by omega : n = 0 ∨ n = 1 ∨ n = 2 ∨ n = 3 ∨ n = 4 ∨ n = 5 ∨ n = 6) with rfl | rfl | rfl | rfl | rfl | rfl | rfl <;> kernel_rfl

/-- The first number that may follow a list. -/
def stP (r : List Nat) : Nat := match r.getLast? with
  | none => 0
  | some x => x + 1

def nxtP (n : Nat) (r : List Nat) : List (List Nat) := (List.range' (stP r) (n - stP r)).map fun x => r ++ [x]

/-- How many lists are there when k of them have been looked at. -/
def cntP (n k : Nat) : Nat := ((alP n).take k).foldl (fun s r => s + (n - stP r)) 1

def okP (n k : Nat) : Bool := decide ((alP n).take (cntP n k) ++ nxtP n ((alP n).getD k []) = (alP n).take (cntP n (k + 1))) && decide (k < cntP n k) && decide (cntP n k ≤ (alP n).length) && ((alP n).getD k []).all (fun x => decide (x < n)) && decide (((alP n).getD k []).length ≤ 6)

theorem okP_all (n : Nat) (hn : n ≤ 6) : (List.range (alP n).length).all (okP n) = true := by
  rcases (by omega : n = 0 ∨ n = 1 ∨ n = 2 ∨ n = 3 ∨ n = 4 ∨ n = 5 ∨ n = 6) with rfl | rfl | rfl | rfl | rfl | rfl | rfl <;> kernel_rfl

theorem endP (n : Nat) (hn : n ≤ 6) : cntP n (alP n).length = (alP n).length ∧ (alP n).length ≤ 64 ∧ cntP n 0 = 1 ∧ (alP n).take 1 = [[]] := by
  rcases (by omega : n = 0 ∨ n = 1 ∨ n = 2 ∨ n = 3 ∨ n = 4 ∨ n = 5 ∨ n = 6) with rfl | rfl | rfl | rfl | rfl | rfl | rfl <;> exact of_decide_eq_true (by kernel_rfl)

theorem okP_at {n k : Nat} (hn : n ≤ 6) (hk : k < (alP n).length) : (alP n).take (cntP n k) ++ nxtP n ((alP n).getD k []) = (alP n).take (cntP n (k + 1)) ∧ k < cntP n k ∧ cntP n k ≤ (alP n).length ∧ (∀ x ∈ (alP n).getD k [], x < n) ∧ ((alP n).getD k []).length ≤ 6 := by
  have h := List.all_eq_true.1 (okP_all n hn) k (List.mem_range.2 hk)
  unfold okP at h
  simp only [Bool.and_eq_true, decide_eq_true_iff, List.all_eq_true] at h
  exact ⟨h.1.1.1.1, h.1.1.1.2, h.1.1.2, h.1.2, h.2⟩

/-- A row of rows of the call's own; a row may be nil. -/
structure Wdx (w : World) (B : Nat) (v : Value) (us : List Value) (W : List (List Int)) : Prop where
  own : w.ownsRow B 36 1 v W.length us
  row : ∀ j, j < W.length → Own w B (us.getD j undef) (W.getD j [])

theorem Wdx.below {w w' : World} {B : Nat} {v : Value} {us : List Value} {W : List (List Int)} (h : Wdx w B v us W) (hb : Below w.heap.size w w') : Wdx w' B v us W :=
  ⟨h.own.kept (row := none) ⟨hb.os, hb.tape, hb.output, hb.size, fun j hj _ => hb.block j hj⟩ (by cases hv : v.ownBlock <;> simp), fun j hj => own_bel (h.row j hj) hb⟩

theorem Wdx.form {w : World} {B : Nat} {v : Value} {us : List Value} {W : List (List Int)} (h : Wdx w B v us W) : ∃ a cap, v = .slice a W.length cap := by
  rcases h.own.2 with ⟨h0, h1⟩ | ⟨g, cap, cur, h1, _⟩
  · exact ⟨none, 0, by rw [h0, h1]⟩
  · exact ⟨_, cap, h1⟩

theorem Wdx.at_ {w : World} {B : Nat} {v : Value} {us : List Value} {W : List (List Int)} (h : Wdx w B v us W) {j : Nat} (hj : j < W.length) : ∃ g cap, v = .slice (some ⟨g, 0, none⟩) W.length cap ∧ g < w.heap.size ∧ w.cell? ⟨g, j, none⟩ = some (us.getD j undef) := by
  rcases h.own.2 with ⟨_, h1⟩ | ⟨g, cap, cur, h1, _, hg, _, _, _, htk⟩
  · omega
  · refine ⟨g, cap, h1, (Array.getElem?_eq_some_iff.1 hg).1, ?_⟩
    rw [Joins.cell_of_block hg j]
    have hl : us.length = W.length := by have := h.own.1; omega
    have e : cur.toList[j]? = us[j]? := by rw [← htk, List.getElem?_take, if_pos (by omega)]
    rw [← Array.getElem?_toList, e, List.getElem?_eq_getElem (by omega), List.getD_eq_getElem?_getD, List.getElem?_eq_getElem (by omega)]
    rfl

theorem Wdx.push {w w' : World} {B : Nat} {v v' u : Value} {us : List Value} {W : List (List Int)} {L : List Int} (h : Wdx w B v us W) (hu : Own w B u L) (h1 : w'.ownsRow B 36 1 v' (W.length + 1) (us ++ [u])) (hg : w.grownBy w' v.ownBlock) : Wdx w' B v' (us ++ [u]) (W ++ [L]) := by
  have hl : us.length = W.length := by have := h.own.1; omega
  refine ⟨by rw [List.length_append]; exact h1, fun j hj => ?_⟩
  by_cases e : j < W.length
  · have e1 : (us ++ [u]).getD j undef = us.getD j undef := by
      rw [List.getD_eq_getElem?_getD, List.getElem?_append_left (by omega), ← List.getD_eq_getElem?_getD]
    have e2 : (W ++ [L]).getD j [] = W.getD j [] := by
      rw [List.getD_eq_getElem?_getD, List.getElem?_append_left e, ← List.getD_eq_getElem?_getD]
    rw [e1, e2]
    have ho := h.row j e
    exact ho.kept hg (own_apart (by decide) ho h.own)
  · have ej : j = W.length := by simp at hj; omega
    have e1 : (us ++ [u]).getD j undef = u := by
      rw [ej, ← hl, List.getD_eq_getElem?_getD]; simp
    have e2 : (W ++ [L]).getD j [] = L := by
      rw [ej, List.getD_eq_getElem?_getD]; simp
    rw [e1, e2]
    exact hu.kept hg (own_apart (by decide) hu h.own)

theorem wdx_one {w : World} {b base : Nat} (h : w.heap[b]? = some (.cells #[.slice none 0 0] 36 (0, 0))) (hb : base ≤ b) : Wdx w base (.slice (some ⟨b, 0, none⟩) 1 1) [.slice none 0 0] [[]] :=
  ⟨⟨rfl, Or.inr ⟨b, 1, _, rfl, hb, h, Nat.le_refl _, by decide, rfl, rfl⟩⟩, fun j hj => by
    obtain rfl : j = 0 := by simpa using hj
    exact World.ownsRow_nil _ _ _ _⟩

/-- The call returns a row of rows of its own, of which some may be nil. -/
def RetWdx (B : Nat) (W : List (List Int)) (w : World) (e : Ending) (w' : World) : Prop := ∃ a cap us, e = .returned (.slice a W.length cap) ∧ Wdx w' B (.slice a W.length cap) us W ∧ Below w.heap.size w w'

theorem last_at {r : List Nat} {x : Nat} (h : r.getLast? = some x) : 0 < r.length ∧ (rowI r).getD (r.length - 1) 0 = (x : Int) := by
  have h0 : 0 < r.length := by
    rcases r with _ | ⟨a, r⟩
    · simp at h
    · simp
  refine ⟨h0, ?_⟩
  rw [List.getLast?_eq_getElem?] at h
  unfold rowI
  rw [List.getD_eq_getElem?_getD, List.getElem?_map, h]
  rfl

theorem own_oneCell {w : World} {B : Nat} {v : Value} {L : List Int} (h : Own w B v L) : v.oneCell' = true := by
  rcases h.2 with ⟨rfl, _⟩ | ⟨g, cap, cur, rfl, _⟩ <;> rfl

set_option maxRecDepth 100000 in
set_option maxHeartbeats 2000000 in
theorem iparts_any (n : Nat) (hn : n ≤ 6) (w : World) :
    Calls Try.prog 96 #[.int .i64 (n : Int)] w (RetWdx w.heap.size ((alP n).map rowI) w) := by
  obtain ⟨hend, hlen, hc0, ht1⟩ := endP n hn
  have HEND := Lib.hid hend
  have HOK := Lib.hid fun (k : Nat) (hk : k < (alP n).length) => okP_at hn hk
  have HT0 : Hid ((alP n).take (cntP n 0) = [[]]) := Lib.hid (by rw [hc0]; exact ht1)
  have HTE : Hid ((alP n).take (cntP n (alP n).length) = alP n) := Lib.hid (by rw [hend, List.take_length])
  have hn' : (n : Int) ≤ 6 := by omega
  clear hend hc0 ht1
  generalize alP n = AL at *
  generalize hcc : cntP n = cp at *
  clear hcc
  go_enter Try.func96, Try.ntmps96
  go_wp2_with fail
  go_loopw [3, 4, 5, 6] (fun v i _ _ wr => ∃ (k : Nat) (us : List Value), k ≤ AL.length ∧ i = .int .i64 k ∧ Wdx wr w.heap.size v us ((AL.take (cp k)).map rowI) ∧ Below w.heap.size w wr) (fun _ i _ _ _ => AL.length - (intOf i).toNat)
  case atStart => exact ⟨0, _, by omega, rfl, by rw [HT0.out]; exact wdx_one (halloc_at _ _ _ rfl) (Nat.le_refl _), (Below.refl _ _).alloc (Nat.le_refl _) _⟩
  case round =>
    obtain ⟨k, us, hk, rfl, hwd, hb⟩ := hrel
    have HWD := Lib.hid hwd
    have HBR := Lib.hid hb
    have hsr := hb.size
    clear hwd hb
    by_cases hkl : k < AL.length
    · obtain ⟨hstep, hkc, hcl, hxs, hr6⟩ := HOK.out k hkl
      have HSTEP := Lib.hid hstep
      have hWl : ((AL.take (cp k)).map rowI).length = cp k := by rw [List.length_map, List.length_take]; omega
      have hkc' : (k : Int) < (cp k : Int) := by omega
      have hcp64 : cp k ≤ 64 := by omega
      have hrow := HWD.out.row k (by rw [hWl]; exact hkc)
      have hrk : ((AL.take (cp k)).map rowI).getD k [] = rowI (AL.getD k []) := by
        rw [List.getD_eq_getElem?_getD, List.getElem?_map, List.getElem?_take, if_pos hkc, List.getD_eq_getElem?_getD, List.getElem?_eq_getElem hkl]; rfl
      rw [hrk] at hrow
      obtain ⟨g, cap, rfl, hgl, hcell⟩ := HWD.out.at_ (j := k) (by rw [hWl]; exact hkc)
      obtain ⟨au, cu, eu, hrd⟩ := own_rd hrow (by rw [rowI_len]; omega)
      have HU := Lib.hid hrow
      rw [eu] at hcell HU
      have HRD := Lib.hid hrd
      have HXS := Lib.hid hxs
      have HA : Hid (AL.take (cp (k + 1)) = AL.take (cp k) ++ nxtP n (AL.getD k [])) := Lib.hid hstep.symm
      have hrl : (rowI (AL.getD k [])).length = (AL.getD k []).length := rowI_len _
      (try rw [hWl])
      rw [hWl] at HWD
      have HWL := Lib.hid hWl
      clear hstep hxs hrow hrk eu hrd hWl
      rw [hrl] at HU hcell
      clear hrl
      generalize AL.getD k [] = r at *
      obtain ⟨st, hst⟩ : ∃ st, st = stP r := ⟨_, rfl⟩
      have HNX : Hid (nxtP n r = (List.range' st (n - st)).map fun x => r ++ [x]) := Lib.hid (by rw [hst]; rfl)
      have hcases : (r.length = 0 ∧ st = 0) ∨ ∃ x : Nat, 0 < r.length ∧ (rowI r).getD (r.length - 1) 0 = (x : Int) ∧ st = x + 1 ∧ x < n := by
        cases hL : r.getLast? with
        | none =>
          left
          have : r = [] := by simpa using hL
          subst this
          exact ⟨rfl, hst⟩
        | some x =>
          right
          obtain ⟨h1, h2⟩ := last_at hL
          refine ⟨x, h1, h2, by rw [hst]; unfold stP; rw [hL], HXS.out x ?_⟩
          exact List.mem_of_getLast? hL
      clear hst
      rcases hcases with ⟨hr0, hs0⟩ | ⟨x, hr1, hx, hs1, hxn⟩
      · rw [hr0] at HU hcell
        go_wp2_with fail
        go_loopw [3, 6] (fun v z wr => ∃ (j : Nat) (us : List Value), st ≤ j ∧ (j ≤ n ∨ j = st) ∧ z = .int .i64 j ∧ Wdx wr w.heap.size v us ((AL.take (cp k) ++ (List.range' st (j - st)).map fun x => r ++ [x]).map rowI) ∧ Own wr w.heap.size (.slice au 0 cu) (rowI r) ∧ Below w.heap.size w wr) (fun _ z _ => n - (intOf z).toNat)
        case atStart => exact ⟨st, us, Nat.le_refl _, Or.inr rfl, by rw [hs0]; rfl, by simpa using HWD.out, HU.out, HBR.out⟩
        case round =>
          obtain ⟨j, us, hsj, hjn, rfl, hwd, hu, hb⟩ := hrel
          have HW := Lib.hid hwd
          have HU2 := Lib.hid hu
          have HB := Lib.hid hb
          have hs2 := hb.size
          obtain ⟨va, capa, rfl⟩ := hwd.form
          clear hwd hu hb
          by_cases hjl : j < n
          · have hjl' : (j : Int) < (n : Int) := by omega
            have HJ : Hid ((AL.take (cp k) ++ (List.range' st (j + 1 - st)).map fun x => r ++ [x]).map rowI = (AL.take (cp k) ++ (List.range' st (j - st)).map fun x => r ++ [x]).map rowI ++ [rowI r ++ [(j : Int)]]) := Lib.hid (by
              obtain ⟨d, rfl⟩ := Nat.exists_eq_add_of_le hsj
              rw [show st + d + 1 - st = d + 1 by omega, show st + d - st = d by omega, List.range'_1_concat]
              simp only [List.map_append, List.append_assoc, List.map_cons, List.map_nil]
              unfold rowI
              rw [List.map_append]
              rfl)
            have hWL : ((AL.take (cp k) ++ (List.range' st (j - st)).map fun x => r ++ [x]).map rowI).length ≤ 1000 := by
              simp only [List.length_map, List.length_append, List.length_take, List.length_range']; omega
            have HRL : Hid ((rowI r).length ≤ 6) := Lib.hid (by rw [rowI_len]; omega)
            generalize ((AL.take (cp k) ++ (List.range' st (j - st)).map fun x => r ++ [x]).map rowI) = W at *
            go_wp2_with fail
            refine (clone_own (by have := HRL.out; omega) _ HU2.out).mono ?_
            rintro e w2 ⟨v2, rfl, ho2, hb2⟩
            have HO2 := Lib.hid ho2
            have HB2 := Lib.hid hb2
            have hz2 := hb2.size
            clear ho2 hb2
            go_wp2_with (first
              | (at_builtin; (refine wpList_appI1 rfl _ _ rfl wr.heap.size v2 (rowI r) rfl (own_bel HO2.out ((Below.refl _ _).alloc (Nat.le_refl _) _)) _ 1 (j : Int) rfl (halloc_at _ _ _ rfl) (by have := HRL.out; omega) (by simp; omega) ?_; intro v3 w3 hown3 hg3; obtain ⟨g3, c3, e3⟩ := own_some hown3 (by simp); rw [show (rowI r ++ [(j : Int)]).length = (rowI r).length + 1 by simp] at e3; subst e3; have HO3 := Lib.hid hown3; have HB3 : Hid (Below wr.heap.size wr w3) := Lib.hid (Below.grown (HB2.out.alloc hz2 _) hg3 (by simp; omega) (fun q e => (HO2.out.lt q e).1)); have hz3 := HB3.out.size; clear hown3 hg3))
              | (at_builtin; (refine wpList_appW1 rfl _ _ rfl w.heap.size (.slice va W.length capa) W.length us rfl (((HW.out.below HB3.out).below ((Below.refl _ _).alloc (Nat.le_refl _) _)).own) _ 1 (.slice (some ⟨g3, 0, none⟩) ((rowI r).length + 1) c3) rfl rfl (halloc_at _ _ _ rfl) (by omega) (by simp; omega) ?_; intro v7 w7 hown7 hg7; have HW6 := (HW.out.below HB3.out).below ((Below.refl w3.heap.size w3).alloc (Nat.le_refl _) (.cells #[(.slice (some ⟨g3, 0, none⟩) ((rowI r).length + 1) c3)] 36)); have HWN := Lib.hid (HW6.push (own_bel (World.ownsRow.mono HO3.out hs2) ((Below.refl _ _).alloc (Nat.le_refl _) _)) hown7 hg7); have HU7 := Lib.hid ((own_bel (own_bel HU2.out HB3.out) ((Below.refl w3.heap.size w3).alloc (Nat.le_refl _) (.cells #[(.slice (some ⟨g3, 0, none⟩) ((rowI r).length + 1) c3)] 36))).kept hg7 (own_apart (by decide) (own_bel (own_bel HU2.out HB3.out) ((Below.refl w3.heap.size w3).alloc (Nat.le_refl _) (.cells #[(.slice (some ⟨g3, 0, none⟩) ((rowI r).length + 1) c3)] 36))) HW6.own)); have HB7 : Hid (Below w.heap.size w w7) := Lib.hid (Below.grown ((HB.out.trans (HB3.out.mono hs2)).alloc (by omega) _) hg7 (by simp; omega) (fun q e => (HW.out.own.lt q e).1)); clear hown7 hg7 HW6)))
            go_roundw
            case rel => exact ⟨j + 1, us ++ [(.slice (some ⟨g3, 0, none⟩) ((rowI r).length + 1) c3)], by omega, Or.inl (by omega), by go_num, by rw [HJ.out]; exact HWN.out, HU7.out, HB7.out⟩
            case measure => simp [intOf]; omega
          · have he : (List.range' st (j - st)) = List.range' st (n - st) := by
              rcases hjn with h | h
              · have : j = n := by omega
                rw [this]
              · rw [show j - st = 0 by omega, show n - st = 0 by omega]
            have heq : (AL.take (cp k) ++ (List.range' st (j - st)).map fun x => r ++ [x]) = AL.take (cp (k + 1)) := by rw [he, ← HNX.out, ← HA.out]
            rw [heq] at HW
            (try rw [heq])
            go_wp2_with fail
            go_roundw
            case rel => exact ⟨k + 1, us, by omega, by go_num, HW.out, HB.out⟩
            case measure => simp [intOf]; omega
      · have hr1' : (0 : Int) < (r.length : Int) := by omega
        obtain ⟨gu, eau, _, hgu, hcu⟩ := HRD.out.2.resolve_left (fun e => by have := rowI_len r; rw [e] at this; simp at this; omega)
        subst eau
        have hcx := (hcu (r.length - 1) (by rw [rowI_len]; omega)).1
        rw [hx] at hcx
        have hcast : ((r.length - 1 : Nat) : Int) = (r.length : Int) - 1 := by omega
        have hin : ((r.length : Int) - 1).toNat = r.length - 1 := by omega
        have hx6 : (x : Int) ≤ 5 := by omega
        clear hcu
        go_wp2_with fail
        go_loopw [3, 6] (fun v z wr => ∃ (j : Nat) (us : List Value), st ≤ j ∧ (j ≤ n ∨ j = st) ∧ z = .int .i64 j ∧ Wdx wr w.heap.size v us ((AL.take (cp k) ++ (List.range' st (j - st)).map fun x => r ++ [x]).map rowI) ∧ Own wr w.heap.size (.slice (some ⟨gu, 0, none⟩) r.length cu) (rowI r) ∧ Below w.heap.size w wr) (fun _ z _ => n - (intOf z).toNat)
        case atStart => exact ⟨st, us, Nat.le_refl _, Or.inr rfl, by rw [hs1]; simp, by simpa using HWD.out, HU.out, HBR.out⟩
        case round =>
          obtain ⟨j, us, hsj, hjn, rfl, hwd, hu, hb⟩ := hrel
          have HW := Lib.hid hwd
          have HU2 := Lib.hid hu
          have HB := Lib.hid hb
          have hs2 := hb.size
          obtain ⟨va, capa, rfl⟩ := hwd.form
          clear hwd hu hb
          by_cases hjl : j < n
          · have hjl' : (j : Int) < (n : Int) := by omega
            have HJ : Hid ((AL.take (cp k) ++ (List.range' st (j + 1 - st)).map fun x => r ++ [x]).map rowI = (AL.take (cp k) ++ (List.range' st (j - st)).map fun x => r ++ [x]).map rowI ++ [rowI r ++ [(j : Int)]]) := Lib.hid (by
              obtain ⟨d, rfl⟩ := Nat.exists_eq_add_of_le hsj
              rw [show st + d + 1 - st = d + 1 by omega, show st + d - st = d by omega, List.range'_1_concat]
              simp only [List.map_append, List.append_assoc, List.map_cons, List.map_nil]
              unfold rowI
              rw [List.map_append]
              rfl)
            have hWL : ((AL.take (cp k) ++ (List.range' st (j - st)).map fun x => r ++ [x]).map rowI).length ≤ 1000 := by
              simp only [List.length_map, List.length_append, List.length_take, List.length_range']; omega
            have HRL : Hid ((rowI r).length ≤ 6) := Lib.hid (by rw [rowI_len]; omega)
            generalize ((AL.take (cp k) ++ (List.range' st (j - st)).map fun x => r ++ [x]).map rowI) = W at *
            go_wp2_with fail
            refine (clone_own (by have := HRL.out; omega) _ HU2.out).mono ?_
            rintro e w2 ⟨v2, rfl, ho2, hb2⟩
            have HO2 := Lib.hid ho2
            have HB2 := Lib.hid hb2
            have hz2 := hb2.size
            clear ho2 hb2
            go_wp2_with (first
              | (at_builtin; (refine wpList_appI1 rfl _ _ rfl wr.heap.size v2 (rowI r) rfl (own_bel HO2.out ((Below.refl _ _).alloc (Nat.le_refl _) _)) _ 1 (j : Int) rfl (halloc_at _ _ _ rfl) (by have := HRL.out; omega) (by simp; omega) ?_; intro v3 w3 hown3 hg3; obtain ⟨g3, c3, e3⟩ := own_some hown3 (by simp); rw [show (rowI r ++ [(j : Int)]).length = (rowI r).length + 1 by simp] at e3; subst e3; have HO3 := Lib.hid hown3; have HB3 : Hid (Below wr.heap.size wr w3) := Lib.hid (Below.grown (HB2.out.alloc hz2 _) hg3 (by simp; omega) (fun q e => (HO2.out.lt q e).1)); have hz3 := HB3.out.size; clear hown3 hg3))
              | (at_builtin; (refine wpList_appW1 rfl _ _ rfl w.heap.size (.slice va W.length capa) W.length us rfl (((HW.out.below HB3.out).below ((Below.refl _ _).alloc (Nat.le_refl _) _)).own) _ 1 (.slice (some ⟨g3, 0, none⟩) ((rowI r).length + 1) c3) rfl rfl (halloc_at _ _ _ rfl) (by omega) (by simp; omega) ?_; intro v7 w7 hown7 hg7; have HW6 := (HW.out.below HB3.out).below ((Below.refl w3.heap.size w3).alloc (Nat.le_refl _) (.cells #[(.slice (some ⟨g3, 0, none⟩) ((rowI r).length + 1) c3)] 36)); have HWN := Lib.hid (HW6.push (own_bel (World.ownsRow.mono HO3.out hs2) ((Below.refl _ _).alloc (Nat.le_refl _) _)) hown7 hg7); have HU7 := Lib.hid ((own_bel (own_bel HU2.out HB3.out) ((Below.refl w3.heap.size w3).alloc (Nat.le_refl _) (.cells #[(.slice (some ⟨g3, 0, none⟩) ((rowI r).length + 1) c3)] 36))).kept hg7 (own_apart (by decide) (own_bel (own_bel HU2.out HB3.out) ((Below.refl w3.heap.size w3).alloc (Nat.le_refl _) (.cells #[(.slice (some ⟨g3, 0, none⟩) ((rowI r).length + 1) c3)] 36))) HW6.own)); have HB7 : Hid (Below w.heap.size w w7) := Lib.hid (Below.grown ((HB.out.trans (HB3.out.mono hs2)).alloc (by omega) _) hg7 (by simp; omega) (fun q e => (HW.out.own.lt q e).1)); clear hown7 hg7 HW6)))
            go_roundw
            case rel => exact ⟨j + 1, us ++ [(.slice (some ⟨g3, 0, none⟩) ((rowI r).length + 1) c3)], by omega, Or.inl (by omega), by go_num, by rw [HJ.out]; exact HWN.out, HU7.out, HB7.out⟩
            case measure => simp [intOf]; omega
          · have he : (List.range' st (j - st)) = List.range' st (n - st) := by
              rcases hjn with h | h
              · have : j = n := by omega
                rw [this]
              · rw [show j - st = 0 by omega, show n - st = 0 by omega]
            have heq : (AL.take (cp k) ++ (List.range' st (j - st)).map fun x => r ++ [x]) = AL.take (cp (k + 1)) := by rw [he, ← HNX.out, ← HA.out]
            rw [heq] at HW
            (try rw [heq])
            go_wp2_with fail
            go_roundw
            case rel => exact ⟨k + 1, us, by omega, by go_num, HW.out, HB.out⟩
            case measure => simp [intOf]; omega
    · obtain rfl : k = AL.length := by omega
      rw [HTE.out] at HWD
      have hWl : ((AL.take (cp AL.length)).map rowI).length = AL.length := by rw [HTE.out, List.length_map]
      obtain ⟨a, cap, rfl⟩ := HWD.out.form
      have hml : (AL.map rowI).length = AL.length := List.length_map _
      go_wp2_with fail
      go_ret
      exact ⟨a, cap, us, rfl, HWD.out, HBR.out⟩

end Go.Proofs.Ytpkapgidpgmdoaa
