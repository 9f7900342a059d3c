/- Names of numbers in a row that may be written; the contracts of impl.rename and spec.l06Join: one name is put in the place of another one. The contract of spec.l06Named: classes with their numbers as told. -/
import Derived.Test.YtoagpklippdlmaaCg
import Derived.Test.YtoagpklippdlmaaSl
namespace Go.Proofs.Ytoagpklippdlmaa
open Go.RowKit

/-- The names r of the numbers below m lie in block g and may be written. -/
structure Nm (w : World) (g m : Nat) (r : Nat → Int) : Prop where
  blk : ∃ (cur : Array Value) (T : TypeId), w.heap[g]? = some (.cells cur T (0, 0)) ∧ ∀ i, i < m → cur[i]? = some (.int .i64 (r i))

theorem Nm.cell {w : World} {g m : Nat} {r : Nat → Int} (h : Nm w g m r) {i : Nat} (hi : i < m) : w.cell? ⟨g, i, none⟩ = some (.int .i64 (r i)) := by
  obtain ⟨cur, T, hb, hc⟩ := h.blk
  rw [Joins.cell_of_block hb i]; exact hc i hi

theorem Nm.free {w : World} {g m : Nat} {r : Nat → Int} (h : Nm w g m r) (i : Nat) : w.frozen? ⟨g, i, none⟩ = false := by
  obtain ⟨cur, T, hb, _⟩ := h.blk
  exact Joins.unfrozen_of_block hb i

theorem Nm.lt {w : World} {g m : Nat} {r : Nat → Int} (h : Nm w g m r) : g < w.heap.size := by
  obtain ⟨cur, T, hb, _⟩ := h.blk
  exact (Array.getElem?_eq_some_iff.1 hb).1

theorem Nm.at_ {w w' : World} {g m : Nat} {r : Nat → Int} (h : Nm w g m r) (e : w'.heap[g]? = w.heap[g]?) : Nm w' g m r := by
  obtain ⟨cur, T, hb, hc⟩ := h.blk
  exact ⟨cur, T, e.trans hb, hc⟩

theorem Nm.below {w w' : World} {g m : Nat} {r : Nat → Int} (h : Nm w g m r) (hb : Below w.heap.size w w') : Nm w' g m r := h.at_ (hb.block g h.lt)

theorem Nm.congr {w : World} {g m : Nat} {r r' : Nat → Int} (h : Nm w g m r) (e : ∀ i, i < m → r i = r' i) : Nm w g m r' := by
  obtain ⟨cur, T, hb, hc⟩ := h.blk
  exact ⟨cur, T, hb, fun i hi => by rw [← e i hi]; exact hc i hi⟩

theorem Nm.set {w : World} {g m : Nat} {r : Nat → Int} (h : Nm w g m r) {i : Nat} (hi : i < m) (x : Int) : Nm (w.setCell ⟨g, i, none⟩ (.int .i64 x)) g m (upd r i x) := by
  obtain ⟨cur, T, hb, hc⟩ := h.blk
  refine ⟨_, _, Joins.block_setCell hb _, fun j hj => ?_⟩
  have hs := (Array.getElem?_eq_some_iff.1 (hc i hi)).1
  rw [Array.getElem?_setIfInBounds]
  unfold upd
  by_cases e : j = i
  · subst e; rw [if_pos rfl, if_pos rfl, if_pos hs]
  · rw [if_neg (Ne.symm e), if_neg e]; exact hc j hj

theorem Nm.inRow {w : World} {g m : Nat} {r : Nat → Int} (h : Nm w g m r) {L : List Int} (hL : L.length = m) (e : ∀ i, i < m → L.getD i 0 = r i) : InRow w (some ⟨g, 0, none⟩) L :=
  Or.inr ⟨g, 0, rfl, h.lt, fun i hi => by rw [Nat.zero_add, h.cell (by omega), e i (by omega)]⟩

theorem own_nm {w : World} {B : Nat} {v : Value} {L : List Int} (h : Own w B v L) (h0 : L ≠ []) : ∃ g cap, v = .slice (some ⟨g, 0, none⟩) L.length cap ∧ B ≤ g ∧ Nm w g L.length (tL L) := by
  rcases h.2 with ⟨_, h1⟩ | ⟨g, cap, cur, h1, hB, hg, hn, hcap, hsz, htk⟩
  · exact absurd (List.length_eq_zero_iff.1 h1) h0
  · refine ⟨g, cap, h1, hB, cur, _, hg, fun i hi => ?_⟩
    have e : cur.toList[i]? = (L.map (Value.int .i64))[i]? := by
      rw [← htk, List.getElem?_take, if_pos (by omega)]
    rw [← Array.getElem?_toList, e, List.getElem?_map, List.getElem?_eq_getElem hi]
    unfold tL
    simp [hi]

/-- One name put in the place of another one, among the first k numbers. -/
def rnk (r : Nat → Int) (x y : Int) (k : Nat) : Nat → Int := fun i => if i < k then rn r x y i else r i

theorem rnk_succ (r : Nat → Int) (x y : Int) (k : Nat) : upd (rnk r x y k) k (rn r x y k) = rnk r x y (k + 1) := by
  funext i
  unfold upd rnk
  by_cases h : i = k
  · subst h; simp
  · by_cases h' : i < k
    · rw [if_neg h, if_pos h', if_pos (by omega)]
    · rw [if_neg h, if_neg h', if_neg (by omega)]

theorem rnk_keep (r : Nat → Int) (x y : Int) (k : Nat) (h : r k ≠ x) : rnk r x y k = rnk r x y (k + 1) := by
  rw [← rnk_succ]
  funext i
  unfold upd
  by_cases e : i = k
  · subst e; rw [if_pos rfl]; unfold rnk rn; rw [if_neg (by omega), if_neg h]
  · rw [if_neg e]

theorem rnk_at (r : Nat → Int) (x y : Int) (k : Nat) : rnk r x y k k = r k := by unfold rnk; rw [if_neg (by omega)]

theorem rn_hit (r : Nat → Int) (x y : Int) (k : Nat) (h : r k = x) : rn r x y k = y := by unfold rn; rw [if_pos h]

set_option maxRecDepth 100000 in
set_option maxHeartbeats 1000000 in
theorem rename_any (m : Nat) (hm : m ≤ 1000) (r : Nat → Int) (g K cap : Nat) (x y : Int) (w : World) (hK : K ≤ g) (h : Nm w g m r) :
    Calls Try.prog 92 #[.slice (some ⟨g, 0, none⟩) m cap, .int .i64 x, .int .i64 y] w fun e w' => e = .returned (.tuple #[]) ∧ Nm w' g m (rn r x y) ∧ Below K w w' := by
  have HN := Lib.hid h
  clear h
  go_enter Try.func92, Try.ntmps92
  go_wp2_with fail
  go_loopw [6, 7, 10] (fun _ _ i wr => ∃ k : Nat, k ≤ m ∧ i = .int .i64 k ∧ Nm wr g m (rnk r x y k) ∧ Below K w wr) (fun _ _ i _ => m - (intOf i).toNat)
  case atStart => exact ⟨0, by omega, rfl, HN.out.congr (fun i _ => by unfold rnk; rw [if_neg (by omega)]), Below.refl _ _⟩
  case round =>
    obtain ⟨k, hk, rfl, hn, hb⟩ := hrel
    have HB := Lib.hid hb
    have HM := Lib.hid hn
    clear hb hn
    by_cases hkm : k < m
    · have hkm' : (k : Int) < (m : Int) := by omega
      have e1 := HM.out.cell hkm
      have e2 := HM.out.free k
      rw [rnk_at] at e1
      by_cases hx : r k = x
      · have hq : (r k == x) = true := by simpa using hx
        have hset := HM.out.set hkm y
        have hrs := rnk_succ r x y k
        rw [rn_hit r x y k hx] at hrs
        rw [hrs] at hset
        clear hrs
        have HS := Lib.hid hset
        clear hset hx
        generalize r k = Z at *
        go_wp2_with fail
        go_roundw
        case rel => exact ⟨k + 1, by omega, by go_num, HS.out, HB.out.setCell hK _⟩
        case measure => simp [intOf]; omega
      · have hq : (r k == x) = false := by simpa using hx
        have HS := HM.out
        rw [rnk_keep r x y k hx] at HS
        have HS := Lib.hid HS
        clear hx
        generalize r k = Z at *
        go_wp2_with fail
        go_roundw
        case rel => exact ⟨k + 1, by omega, by go_num, HS.out, HB.out⟩
        case measure => simp [intOf]; omega
    · obtain rfl : k = m := by omega
      go_wp2_with fail
      go_end0
      exact ⟨rfl, HM.out.congr (fun i hi => by unfold rnk; rw [if_pos hi]), HB.out⟩

set_option maxRecDepth 100000 in
set_option maxHeartbeats 1000000 in
theorem join_any (m : Nat) (hm : m ≤ 1000) (r : Nat → Int) (g K cap : Nat) (x y : Int) (w : World) (hK : K ≤ g) (h : Nm w g m r) :
    Calls Try.prog 90 #[.slice (some ⟨g, 0, none⟩) m cap, .int .i64 y, .int .i64 x] w fun e w' => e = .returned (.tuple #[]) ∧ Nm w' g m (rn r x y) ∧ Below K w w' := by
  have HN := Lib.hid h
  clear h
  go_enter Try.func90, Try.ntmps90
  go_wp2_with fail
  go_loopw [6] (fun i wr => ∃ k : Nat, k ≤ m ∧ i = .int .i64 k ∧ Nm wr g m (rnk r x y k) ∧ Below K w wr) (fun i _ => m - (intOf i).toNat)
  case atStart => exact ⟨0, by omega, rfl, HN.out.congr (fun i _ => by unfold rnk; rw [if_neg (by omega)]), Below.refl _ _⟩
  case round =>
    obtain ⟨k, hk, rfl, hn, hb⟩ := hrel
    have HB := Lib.hid hb
    have HM := Lib.hid hn
    clear hb hn
    by_cases hkm : k < m
    · have hkm' : (k : Int) < (m : Int) := by omega
      have e1 := HM.out.cell hkm
      have e2 := HM.out.free k
      rw [rnk_at] at e1
      by_cases hx : r k = x
      · have hq : (r k == x) = true := by simpa using hx
        have hset := HM.out.set hkm y
        have hrs := rnk_succ r x y k
        rw [rn_hit r x y k hx] at hrs
        rw [hrs] at hset
        clear hrs
        have HS := Lib.hid hset
        clear hset hx
        generalize r k = Z at *
        go_wp2_with fail
        go_roundw
        case rel => exact ⟨k + 1, by omega, by go_num, HS.out, HB.out.setCell hK _⟩
        case measure => simp [intOf]; omega
      · have hq : (r k == x) = false := by simpa using hx
        have HS := HM.out
        rw [rnk_keep r x y k hx] at HS
        have HS := Lib.hid HS
        clear hx
        generalize r k = Z at *
        go_wp2_with fail
        go_roundw
        case rel => exact ⟨k + 1, by omega, by go_num, HS.out, HB.out⟩
        case measure => simp [intOf]; omega
    · obtain rfl : k = m := by omega
      go_wp2_with fail
      go_end0
      exact ⟨rfl, HM.out.congr (fun i hi => by unfold rnk; rw [if_pos hi]), HB.out⟩

end Go.Proofs.Ytoagpklippdlmaa

namespace Go.Proofs.Ytoagpklippdlmaa
open Go.RowKit

/-- What the search forwards has found ahead of point q, where the first point with the value of k is before k. -/
def fw (t : Nat → Int) (k q : Nat) : Int := if q ≤ fst1 t k then -1 else kvK t k

theorem fw_no {t : Nat → Int} {k q : Nat} (h : q ≤ fst1 t k) : fw t k q = -1 := by unfold fw; rw [if_pos h]
theorem fw_yes {t : Nat → Int} {k q : Nat} (h : fst1 t k < q) : fw t k q = kvK t k := by unfold fw; rw [if_neg (by omega)]

set_option maxRecDepth 100000 in
set_option maxHeartbeats 2000000 in
theorem named_any (L : List Int) (hn : L.length ≤ 1000) (a : Option Addr) (c : Nat) (w : World) (hr : InRow w a L) :
    Calls Try.prog 63 #[.slice a L.length c] w (RetOwn w.heap.size (kerK (tL L) L.length) w) := by
  have HR := Lib.hid hr
  clear hr
  obtain ⟨m, hm⟩ : ∃ m, m = L.length := ⟨_, rfl⟩
  have HM := Lib.hid hm
  rw [← hm] at hn ⊢
  clear hm
  obtain ⟨i0, hi, hz0', hz1', hz2'⟩ := info_parts info_int
  go_enter Try.func63, Try.ntmps63
  go_wp2_with fail
  go_loopw [3, 4, 5, 6, 7] (fun v nx i _ _ wr => ∃ k : Nat, k ≤ m ∧ i = .int .i64 k ∧ nx = .int .i64 (rkK (tL L) k) ∧ wr.ownsRow w.heap.size 2 1 v (kerK (tL L) k).length ((kerK (tL L) k).map (Value.int .i64)) ∧ Below w.heap.size w wr) (fun _ _ i _ _ _ => m - (intOf i).toNat)
  case atStart => exact ⟨0, by omega, rfl, rfl, own_empty w w.heap.size (Nat.le_refl _), (Below.refl _ _).alloc (Nat.le_refl _) _⟩
  case round =>
    obtain ⟨k, hk, rfl, rfl, hown, hb⟩ := hrel
    have Hb' := Lib.hid hb
    have hsz := hb.size
    by_cases hkm : k < m
    · have hkm' : (k : Int) < (m : Int) := by omega
      obtain ⟨b, off, rfl, hlt, hin⟩ := (HR.out.below hb).resolve_left (fun e => by have := HM.out; rw [e] at this; simp at this; omega)
      rw [← HM.out] at hin
      have hfk := hin k hkm
      rw [show L.getD k 0 = tL L k from rfl] at hfk
      have hrk := rkK_le (tL L) k
      have hrk' : (rkK (tL L) k : Int) ≤ 1000 := by omega
      have hlen := kerK_len (tL L) k
      have hkv := kvK_bd (tL L) k
      obtain ⟨hf1, hf2, hf3⟩ := fst1_at (tL L) k
      obtain ⟨a, cap, rfl, hcl⟩ := own_cellz (L := kerK (tL L) k) hown (by omega)
      have HOWN := Lib.hid hown
      have HCL := Lib.hid hcl
      have HIN := Lib.hid hin
      clear hb hown hcl hin
      by_cases hn1 : fst1 (tL L) k = k
      · have HV : Hid (kvK (tL L) k = rkK (tL L) k) := Lib.hid (kvK_first hn1)
        have HR2 : Hid (rkK (tL L) (k + 1) = rkK (tL L) k + 1) := by rw [rkK_succ, if_pos hn1]; exact Lib.hid rfl
        rw [hn1] at hf3
        clear hn1 hkv hf1 hf2
        go_wp2_with fail
        go_loopw [6, 7] (fun o z wq => ∃ (q : Nat) (nn : Nat), q ≤ k ∧ z = .int .i64 q ∧ o = .int .i64 (-1) ∧ wq = wr.drewN nn) (fun _ z _ => k - (intOf z).toNat)
        case atStart => exact ⟨0, 0, by omega, rfl, rfl, rfl⟩
        case round =>
          obtain ⟨q, nn, hq, rfl, rfl, rfl⟩ := hrel
          by_cases hqk : q < k
          · have hqk' : (q : Int) < (k : Int) := by omega
            have hne : (tL L q == tL L k) = false := by simpa using hf3 q hqk
            have hcc := HIN.out q (by omega)
            rw [show L.getD q 0 = tL L q from rfl] at hcc
            obtain ⟨g, rfl, hgm⟩ := HCL.out q (by omega)
            rw [kerK_getD (tL L) k q (by omega)] at hgm
            clear hf3
            generalize tL L q = X at *
            generalize tL L k = Y at *
            generalize kvK (tL L) q = KV at *
            go_wp2_with fail
            go_quiet (fail)
            go_wp2_with fail
            go_roundw
            case rel => exact ⟨q + 1, _, by omega, by go_num, rfl, rfl⟩
            case measure => simp [intOf]; omega
          · obtain rfl : q = k := by omega
            clear hf3 hfk
            clear HCL
            go_wp2_with (at_builtin; refine wpList_append_own _ rfl _ _ 26 rfl w.heap.size 2 i0 (.int .i64 0) 1 8 Try.underlying26 hi hz0' hz1' hz2' rfl (by decide) _ _ _ rfl ((HOWN.out : (wr.drewN nn).ownsRow _ _ _ _ _ _).alloc _) ⟨(wr.drewN nn).heap.size, 0, none⟩ 1 1 [.int .i64 (rkK (tL L) q : Int)] rfl rfl ?c1 ?c2 ?c3 ?c4 ?c5 ?_)
            case c1 =>
              intro j u hj
              match j, hj with
              | 0, hj => simp at hj; subst hj; exact World.cell?_alloc_new (w := wr.drewN nn) #[.int .i64 (rkK (tL L) q : Int)] 2 0
            case c2 => first | rfl | (intro u hu; simp at hu; subst hu; rfl)
            case c3 => unfold maxLen; omega
            case c4 => omega
            case c5 => first | omega | (simp; omega)
            intro v' w2 hown' hgrow _
            have hown2 : Hid (w2.ownsRow w.heap.size 2 1 v' (kerK (tL L) (q + 1)).length ((kerK (tL L) (q + 1)).map (Value.int .i64))) := by
              refine Lib.hid ?_
              rw [kerK_succ, HV.out]; simpa [hlen] using hown'
            have hb2 : Hid (Below w.heap.size w w2) :=
              ((below_drewN Hb'.out nn).alloc (by simp; omega) _).grown hgrow (by simp; omega) (fun b hbk => by
                rcases HOWN.out.2 with ⟨hv, _⟩ | ⟨g, cap, cur, hv, hg, _⟩
                · injection hv with h1 _ _; rw [h1] at hbk; cases hbk
                · injection hv with h1 _ _; rw [h1] at hbk; cases hbk; exact hg)
            clear hown' hgrow
            go_wp2_with fail
            go_roundw
            case rel => exact ⟨q + 1, by omega, by go_num, (by first | (rw [HR2.out]; done) | (rw [HR2.out]; go_num)), hown2.out, hb2.out⟩
            case measure => simp [intOf]; omega
      · have hlt1 : fst1 (tL L) k < k := by omega
        have HF3 := Lib.hid hf3
        have HF1 := Lib.hid hf1
        have HR2 : Hid (rkK (tL L) (k + 1) = rkK (tL L) k) := by rw [rkK_succ, if_neg hn1]; exact Lib.hid rfl
        have HFN := Lib.hid fun q h => fw_no (t := tL L) (k := k) (q := q) h
        have HFY := Lib.hid fun q h => fw_yes (t := tL L) (k := k) (q := q) h
        have HF0 := Lib.hid (fw_no (t := tL L) (k := k) (q := 0) (Nat.zero_le _))
        obtain ⟨F, hF⟩ : ∃ F, F = fst1 (tL L) k := ⟨_, rfl⟩
        have HKF : Hid (kvK (tL L) F = kvK (tL L) k) := Lib.hid (by rw [hF]; exact kvK_same hf1)
        rw [← hF] at HF3 HF1 HFN HFY hlt1
        clear hf1 hf2 hf3 hn1 hF
        go_wp2_with fail
        go_loopw [6, 7] (fun o z wq => ∃ (q : Nat) (nn : Nat), q ≤ F + 1 ∧ z = .int .i64 q ∧ o = .int .i64 (fw (tL L) k q) ∧ wq = wr.drewN nn) (fun _ z _ => k - (intOf z).toNat)
        case atStart => exact ⟨0, 0, by omega, rfl, by rw [HF0.out], rfl⟩
        case round =>
          obtain ⟨q, nn, hq, rfl, rfl, rfl⟩ := hrel
          by_cases hqF : q ≤ F
          · have hqk : q < k := by omega
            have hqk' : (q : Int) < (k : Int) := by omega
            have hfq := HFN.out q hqF
            rw [hfq]
            have hcc := HIN.out q (by omega)
            rw [show L.getD q 0 = tL L q from rfl] at hcc
            obtain ⟨g, rfl, hgm⟩ := HCL.out q (by omega)
            rw [kerK_getD (tL L) k q (by omega)] at hgm
            by_cases hqe : q = F
            · have hne : (tL L q == tL L k) = true := by rw [hqe]; simpa using HF1.out
              have hfy := HFY.out (q + 1) (by omega)
              rw [← HKF.out, ← hqe] at hfy
              subst hqe
              have HFY2 := Lib.hid hfy
              clear hfq hfy
              generalize tL L q = X at *
              generalize tL L k = Y at *
              generalize kvK (tL L) q = KV at *
              go_wp2_with fail
              go_quiet (fail)
              go_wp2_with fail
              go_roundw
              case rel => exact ⟨q + 1, _, by omega, by go_num, by rw [HFY2.out], rfl⟩
              case measure => simp [intOf]; omega
            · have hne : (tL L q == tL L k) = false := by simpa using HF3.out q (by omega)
              have HFY2 := Lib.hid (HFN.out (q + 1) (by omega))
              clear hfq
              generalize tL L q = X at *
              generalize tL L k = Y at *
              generalize kvK (tL L) q = KV at *
              go_wp2_with fail
              go_quiet (fail)
              go_wp2_with fail
              go_roundw
              case rel => exact ⟨q + 1, _, by omega, by go_num, by rw [HFY2.out], rfl⟩
              case measure => simp [intOf]; omega
          · have hfy := HFY.out q (by omega)
            rw [hfy]
            obtain ⟨V, hV⟩ : ∃ V : Int, kvK (tL L) k = V := ⟨_, rfl⟩
            have HV := Lib.hid hV
            rw [hV] at hkv ⊢
            clear hfk hfy hV
            by_cases hqk : q < k
            · have hqk' : (q : Int) < (k : Int) := by omega
              clear HCL
              go_wp2_with (at_builtin; refine wpList_append_own _ rfl _ _ 26 rfl w.heap.size 2 i0 (.int .i64 0) 1 8 Try.underlying26 hi hz0' hz1' hz2' rfl (by decide) _ _ _ rfl ((HOWN.out : (wr.drewN nn).ownsRow _ _ _ _ _ _).alloc _) ⟨(wr.drewN nn).heap.size, 0, none⟩ 1 1 [.int .i64 V] rfl rfl ?c1 ?c2 ?c3 ?c4 ?c5 ?_)
              case c1 =>
                intro j u hj
                match j, hj with
                | 0, hj => simp at hj; subst hj; exact World.cell?_alloc_new (w := wr.drewN nn) #[.int .i64 V] 2 0
              case c2 => first | rfl | (intro u hu; simp at hu; subst hu; rfl)
              case c3 => unfold maxLen; omega
              case c4 => omega
              case c5 => first | omega | (simp; omega)
              intro v' w2 hown' hgrow _
              have hown2 : Hid (w2.ownsRow w.heap.size 2 1 v' (kerK (tL L) (k + 1)).length ((kerK (tL L) (k + 1)).map (Value.int .i64))) := by
                refine Lib.hid ?_
                rw [kerK_succ, HV.out]; simpa [hlen] using hown'
              have hb2 : Hid (Below w.heap.size w w2) :=
                ((below_drewN Hb'.out nn).alloc (by simp; omega) _).grown hgrow (by simp; omega) (fun b hbk => by
                  rcases HOWN.out.2 with ⟨hv, _⟩ | ⟨g, cap, cur, hv, hg, _⟩
                  · injection hv with h1 _ _; rw [h1] at hbk; cases hbk
                  · injection hv with h1 _ _; rw [h1] at hbk; cases hbk; exact hg)
              clear hown' hgrow
              go_wp2_with fail
              go_roundw
              case rel => exact ⟨k + 1, by omega, by go_num, (by first | (rw [HR2.out]; done) | (rw [HR2.out]; go_num)), hown2.out, hb2.out⟩
              case measure => simp [intOf]; omega
            · have hqk' : ¬ ((q : Int) < (k : Int)) := by omega
              clear HCL
              go_wp2_with (at_builtin; refine wpList_append_own _ rfl _ _ 26 rfl w.heap.size 2 i0 (.int .i64 0) 1 8 Try.underlying26 hi hz0' hz1' hz2' rfl (by decide) _ _ _ rfl ((HOWN.out : (wr.drewN nn).ownsRow _ _ _ _ _ _).alloc _) ⟨(wr.drewN nn).heap.size, 0, none⟩ 1 1 [.int .i64 V] rfl rfl ?c1 ?c2 ?c3 ?c4 ?c5 ?_)
              case c1 =>
                intro j u hj
                match j, hj with
                | 0, hj => simp at hj; subst hj; exact World.cell?_alloc_new (w := wr.drewN nn) #[.int .i64 V] 2 0
              case c2 => first | rfl | (intro u hu; simp at hu; subst hu; rfl)
              case c3 => unfold maxLen; omega
              case c4 => omega
              case c5 => first | omega | (simp; omega)
              intro v' w2 hown' hgrow _
              have hown2 : Hid (w2.ownsRow w.heap.size 2 1 v' (kerK (tL L) (k + 1)).length ((kerK (tL L) (k + 1)).map (Value.int .i64))) := by
                refine Lib.hid ?_
                rw [kerK_succ, HV.out]; simpa [hlen] using hown'
              have hb2 : Hid (Below w.heap.size w w2) :=
                ((below_drewN Hb'.out nn).alloc (by simp; omega) _).grown hgrow (by simp; omega) (fun b hbk => by
                  rcases HOWN.out.2 with ⟨hv, _⟩ | ⟨g, cap, cur, hv, hg, _⟩
                  · injection hv with h1 _ _; rw [h1] at hbk; cases hbk
                  · injection hv with h1 _ _; rw [h1] at hbk; cases hbk; exact hg)
              clear hown' hgrow
              go_wp2_with fail
              go_roundw
              case rel => exact ⟨k + 1, by omega, by go_num, (by first | (rw [HR2.out]; done) | (rw [HR2.out]; go_num)), hown2.out, hb2.out⟩
              case measure => simp [intOf]; omega
    · obtain rfl : k = m := by omega
      have HO := Lib.hid hown
      clear hown hb
      go_wp2_with fail
      go_ret
      exact ⟨_, rfl, HO.out, Hb'.out⟩

end Go.Proofs.Ytoagpklippdlmaa
