/- Lists of classes, told without Go: their code, their maps, the images that spec writes one by one; a map appended to a list of maps. The contracts of impl.behindDoor and of the closure that it defers, at work that returns classes or panics with an error. The contract of impl.mapOfClasses. The contracts of impl.ListOfClasses and of its closure. The contracts of impl.IsInvariantPartition and spec.IsInvariantPartition. -/
import Derived.Test.YtpphihjbgikjkaaDoorIsi
import Derived.Test.YtpphihjbgikjkaaDoorConc
import Derived.Maps.AppendAt
import Derived.Test.YtpphihjbgikjkaaDoorPcl
import Derived.Test.YtpphihjbgikjkaaDoorErd
import Derived.Defers
import Derived.Recover
import Derived.Deep.DeepCutAuto
import Derived.Test.YtpphihjbgikjkaaDoorRss
import Derived.Test.YtpphihjbgikjkaaDoorRlo
import Derived.Deep.RegionHeld3
import Derived.StillTailTactics
namespace Go.Proofs.YtpphihjbgikjkaaDoor
open Go Go.RowKit

/-- The code of ListOfClasses. -/
def locC (L : List MapN) (P : List Int) : Int := if ptC L P = 0 then (if invB L P (fst0 L).toNat = true then 0 else 5) else ptC L P
/-- The maps of classes. -/
def locM (L : List MapN) (P : List Int) (n : Nat) : List MapN := L.map fun x => ((nxK P n : Int), qmF P x.2 n)
def locL (L : List MapN) (P : List Int) : List MapN := if locC L P = 0 then locM L P (fst0 L).toNat else []
theorem locM_len (L : List MapN) (P : List Int) (n : Nat) : (locM L P n).length = L.length := by simp [locM]
theorem locM_succ {L : List MapN} (P : List Int) (n : Nat) {k : Nat} (h : k < L.length) : locM (L.take (k + 1)) P n = locM (L.take k) P n ++ [((nxK P n : Int), qmF P (L.getD k z0).2 n)] := by
  unfold locM
  rw [List.take_add_one, List.getElem?_eq_getElem h, List.map_append, List.getD_eq_getElem?_getD, List.getElem?_eq_getElem h]
  rfl

theorem ptC_zero {L : List MapN} {P : List Int} (h : ptC L P = 0) : chkC L [] = 0 ∧ parB P (fst0 L).toNat = true := by
  by_cases hc : chkC L [] = 0
  · refine ⟨hc, ?_⟩
    cases hp : parB P (fst0 L).toNat
    · unfold ptC at h
      rw [if_pos hc, hp] at h
      cases h
    · rfl
  · rw [ptC_bad hc] at h
    exact absurd h hc

/-- The images that are written for the first j points. -/
def imK (P : List Int) (t : Nat → Int) : Nat → Nat → Int
  | 0 => fun _ => 0
  | j + 1 => upd (imK P t j) (P.getD j 0).toNat (P.getD (t j).toNat 0)
theorem imK_succ (P : List Int) (t : Nat → Int) (j : Nat) : imK P t (j + 1) = upd (imK P t j) (P.getD j 0).toNat (P.getD (t j).toNat 0) := rfl
theorem imK_at {P : List Int} {t : Nat → Int} {n : Nat} (hok : ∀ j, j < n → okP P j = true) (hi : invT P t n = true) {c : Nat} (hc : c < nxK P n) : ∀ j, j ≤ n → (∃ p, p < j ∧ P.getD p 0 = (c : Int)) → imK P t j c = P.getD (t (fpC P n c)).toNat 0
  | 0, _, h => by obtain ⟨p, hp, _⟩ := h; omega
  | j + 1, hj, h => by
    obtain ⟨_, hf1, hf2⟩ := fpC_in hok hc
    rw [imK_succ]
    unfold upd
    by_cases e : c = (P.getD j 0).toNat
    · rw [if_pos e]
      have h0 := (okP_iff.1 (hok j (by omega))).1
      exact invT_iff.1 hi j (by omega) _ hf1 (by rw [hf2]; omega)
    · rw [if_neg e]
      obtain ⟨p, hp, hpc⟩ := h
      refine imK_at hok hi hc j (by omega) ⟨p, ?_, hpc⟩
      by_cases ep : p = j
      · subst ep; rw [hpc] at e; exact absurd rfl e
      · omega
theorem imK_all {P : List Int} {t : Nat → Int} {n : Nat} (hok : ∀ j, j < n → okP P j = true) (hi : invT P t n = true) (c : Nat) (hc : c < nxK P n) : imK P t n c = qmF P t n c := by
  obtain ⟨_, hf1, hf2⟩ := fpC_in hok hc
  rw [imK_at hok hi hc n (Nat.le_refl _) ⟨_, hf1, hf2⟩]
  exact (qmK_at P t n _ c hc).symm
/-- Numbers as a list. -/
def rgL (V : Nat → Int) (m : Nat) : List Int := (List.range m).map V
theorem rgL_len (V : Nat → Int) (m : Nat) : (rgL V m).length = m := by simp [rgL]
theorem rgL_at (V : Nat → Int) (m j : Nat) (h : j < m) : (rgL V m).getD j 0 = V j := by simp [rgL, h]
theorem tL_rg {P : List Int} {t : Nat → Int} {n : Nat} (hok : ∀ j, j < n → okP P j = true) (hi : invT P t n = true) : tL (rgL (imK P t n) (nxK P n)) = qmF P t n := by
  funext c
  unfold tL
  by_cases hc : c < nxK P n
  · rw [rgL_at _ _ _ hc, imK_all hok hi c hc]
  · rw [List.getD_eq_getElem?_getD, List.getElem?_eq_none (by rw [rgL_len]; omega)]
    unfold qmF qmK
    rw [if_neg hc]
    rfl

theorem at_oneM {w : World} {b : Nat} {y : MapN} (hb : w.heap[b]? = some (.cells (mcells y.1 y.2) 49 (0, 0))) : ∀ j, j < [y].length → AtM w b 0 j ([y].getD j z0) := by
  intro j hj
  have : j = 0 := by simp at hj; omega
  subst this
  obtain ⟨x0, x1, x2, x3, x4, x5⟩ := blk6 hb
  exact ⟨x0, x1, x2, x3, x4, x5⟩

/-- append of one map that lies in a block of its own. -/
theorem wpList_apM1 {ops : Array Oper} {rest : List Oper} {o : Oper} {ac : Act} {Q : Exit → Act → World → Prop} {w : World} (hgd : o.guard = none) (s x : Operand)
    (ho : o.op = .call { callee := .builtin .append, args := #[s, x], argTypes := #[27, 27] })
    (base : Nat) (v : Value) (M : List MapN) (hs : ac.eval s = v) (hown : OwnM w base v M) (b c : Nat) (y : MapN) (hx : ac.eval x = .slice (some ⟨b, 0, none⟩) 1 c) (hb : w.heap[b]? = some (.cells (mcells y.1 y.2) 49 (0, 0)))
    (hlen : M.length ≤ 1000000) (hbase : base ≤ w.heap.size)
    (h : ∀ v' w', OwnM w' base v' (M ++ [y]) → w.grownBy w' v.ownBlock → wpList Tryd.prog ops Q rest (ac.put o.dst v') w') : wpList Tryd.prog ops Q (o :: rest) ac w := by
  obtain ⟨i0, hi, hz0, hz1, hz2⟩ := info_parts info_map
  refine wpList_append_own_at w hgd s x _ ho base 49 i0 _ 6 48 Tryd.underlying27 hi hz0 hz1 hz2 rfl (by decide) v M.length (mcels M) hs hown ⟨b, 0, none⟩ 1 c (mcels [y]) hx rfl (rowM_cells (L := [y]) (at_oneM hb)) (mcels_one [y]) (by unfold maxLen; omega) (by omega) hbase ?_
  intro v' w' h1 h2 _ h4
  refine h v' w' ?_ h2
  unfold OwnM
  rw [mcels_app, List.length_append]
  exact h1

theorem ownM_empty (w : World) (base : Nat) (h : base ≤ w.heap.size) : OwnM (w.alloc (.cells #[] 49)) base (.slice (some ⟨w.heap.size, 0, none⟩) 0 0) [] :=
  ⟨rfl, Or.inr ⟨_, 0, #[], rfl, h, halloc_at _ _ _ rfl, Nat.le_refl _, Nat.zero_le _, rfl, rfl⟩⟩

/-- The call returns a list of maps of its own and a code. -/
def RetRowN (B : Nat) (L : List MapN) (c : Int) (w : World) (e : Ending) (w' : World) : Prop :=
  ∃ a cap, e = .returned (.tuple #[.slice a L.length cap, .int .i64 c]) ∧ RdM w' B a L ∧ Below w.heap.size w w'

end Go.Proofs.YtpphihjbgikjkaaDoor

namespace Go.Proofs.YtpphihjbgikjkaaDoor
open Go Go.RowKit

theorem is_err (E : Addr) (w : World) : (Instr.typeAssert (.iface 96 (.pointer (some E))) 20 79 true).run Tryd.prog w = .ok (.tuple #[.iface 96 (.pointer (some E)), .bool true]) w := by kernel_rfl

theorem is_nil (w : World) : (Instr.typeAssert .nilIface 20 79 true).run Tryd.prog w = .ok (.tuple #[.nilIface, .bool false]) w := by kernel_rfl

theorem bcatch_err (p : Addr) (x : Int) (E : Addr) (w : World) (hc : w.cell? p = some (.int .i64 x)) (hz : w.frozen? p = false) :
    CallsD Tryd.prog 62 #[.pointer (some p)] (.panicking [{ v := .iface 96 (.pointer (some E)), recovered := false }]) w fun e u' w' =>
      e = .returned (.tuple #[]) ∧ u' = .panicking [{ v := .iface 96 (.pointer (some E)), recovered := true }] ∧ w' = w.setCell p (.int .i64 2) := by
  have hta := fun w => is_err E w
  refine callsD_of_wpS Tryd.func62 rfl fun c₀ cs hu => ?_
  apply wpS_seq
  apply wpS_region
  simp [wpOpsS, go_sem, recoverD, hu, Tryd.ntmps62, Exit.thenS, hta]
  apply wpS_seq
  apply wpS_region
  simp [wpOpsS, go_sem, Exit.thenS]
  refine wpS_cond (t := true) (by simp [Act.eval, Array.replicate]) ?_
  simp only [if_true]
  apply wpS_region
  simp [wpOpsS, go_sem, hc, hz, bodyPostS, results, Tryd.results62]

theorem bcatch_idle (p : Addr) (w : World) :
    CallsD Tryd.prog 62 #[.pointer (some p)] .returning w fun e u' w' => e = .returned (.tuple #[]) ∧ u' = .returning ∧ w' = w := by
  have hta := fun w => is_nil w
  refine callsD_of_wpS Tryd.func62 rfl fun c₀ cs hu => ?_
  apply wpS_seq
  apply wpS_region
  simp [wpOpsS, go_sem, recoverD, hu, Tryd.ntmps62, Exit.thenS, hta]
  apply wpS_seq
  apply wpS_region
  simp [wpOpsS, go_sem, Exit.thenS]
  refine wpS_cond (t := false) (by simp [Act.eval, Array.replicate]) ?_
  simp only [Bool.false_eq_true, if_false]
  refine wpS_of_wp (wp_skip ?_)
  cases c₀
  simp_all [bodyPostS, results, Tryd.results62]

theorem Trw.setLow {w : World} {B b o : Nat} {v u : Value} {us : List Value} {W : List (List Int)} (h : Trw w B v us W) (hb : b < B) : Trw (w.setCell ⟨b, o, none⟩ u) B v us W :=
  ⟨((Turn.of_below (S := fun r => r = b) (Below.refl _ _)).setCell rfl).own h.own (fun r e => by have := (h.own.lt r e).1; omega), fun j hj => ((Turn.of_below (S := fun r => r = b) (Below.refl _ _)).setCell rfl).own (h.row j hj) (fun r e => by have := ((h.row j hj).lt r e).1; omega), h.full, h.ne⟩

theorem Trw.low {w : World} {B B2 : Nat} {v : Value} {us : List Value} {W : List (List Int)} (h : Trw w B v us W) (hb : B2 ≤ B) : Trw w B2 v us W :=
  ⟨Joins.ownsRow_le h.own hb, fun j hj => Joins.ownsRow_le (h.row j hj) hb, h.full, h.ne⟩

set_option maxRecDepth 1000000 in
set_option maxHeartbeats 4000000 in
theorem bhd_good (W : List (List Int)) (p1 p2 : Addr) (w : World) (HW : ∀ wx, Below w.heap.size w wx → Calls Tryd.prog 49 #[.pointer (some p1), .pointer (some p2)] wx fun e w' => ∃ v us, e = .returned v ∧ Trw w' wx.heap.size v us W ∧ Below wx.heap.size wx w') :
    Calls Tryd.prog 48 #[.func (.func 49) #[] #[.pointer (some p1), .pointer (some p2)]] w fun e w' => ∃ v us, e = .returned (.tuple #[v, .int .i64 0]) ∧ Trw w' w.heap.size v us W ∧ Below w.heap.size w w' := by
  have hmf : ∀ (fn : Fn) (first cap : Array Value) (w : World), (Instr.makeFunc fn first cap).run Tryd.prog w = .ok (.func fn first cap) w := fun _ _ _ _ => rfl
  have HW := Lib.hid HW
  go_enter_defers Tryd.func48, Tryd.ntmps48
  go_wp2_with fail
  refine (HW.out _ (by (repeat' (first | (with_reducible exact Below.refl _ _) | (with_reducible refine Below.alloc ?_ ?_ _) | (with_reducible refine Below.setCell ?_ ?_ _) | (with_reducible refine Below.drew ?_) | (with_reducible refine below_drewN ?_ _) | (with_reducible refine Below.trans ?_ (Below.mono (Hid.out (by assumption)) ?_)) | omega | (simp; done) | (simp; omega))))).mono ?_
  rintro e w1 ⟨v, us, rfl, ht, hb⟩
  have HT := Lib.hid ht
  have hbk := (hb.block w.heap.size (by simp)).trans (halloc_at w _ _ rfl)
  have hc0 := Joins.cell_of_block hbk 0
  have hfr := Joins.unfrozen_of_block hbk 0
  simp at hc0
  have HBK := Lib.hid hbk
  have hsz := hb.size
  simp at hsz
  have HB0 : Hid (Below w.heap.size w w1) := Lib.hid (((Below.refl _ _).alloc (Nat.le_refl _) _).trans (hb.mono (by simp)))
  clear hb hbk ht
  go_wp2_with fail
  refine leaves_cons (f := 62) (args := #[.pointer (some ⟨w.heap.size, 0, none⟩)]) (by simp) (by simp [go_sem]) ?_
  refine (bcatch_idle ⟨w.heap.size, 0, none⟩ _).mono ?_
  rintro e u' w'' ⟨rfl, rfl, rfl⟩
  have hkx := Joins.cell_of_block (Joins.block_setCell (i := 0) HBK.out (.int .i64 0)) 0
  simp at hkx
  have ht2 : Trw (w1.setCell ⟨w.heap.size, 0, none⟩ (.int .i64 0)) w.heap.size v us W := (HT.out.setLow (by simp)).low (by simp)
  have hbel2 := Below.setCell (p := ⟨w.heap.size, 0, none⟩) HB0.out (Nat.le_refl _) (.int .i64 0)
  simp [Leaves, settle, results, Tryd.results48, go_sem, hkx]
  exact ⟨⟨us, ht2⟩, hbel2⟩

set_option maxRecDepth 1000000 in
set_option maxHeartbeats 4000000 in
theorem bhd_bad (E p1 p2 : Addr) (w : World) (HW : ∀ wx, Below w.heap.size w wx → Calls Tryd.prog 49 #[.pointer (some p1), .pointer (some p2)] wx fun e w' => e = .panicked [{ v := .iface 96 (.pointer (some E)), recovered := false }] ∧ Below wx.heap.size wx w') :
    Calls Tryd.prog 48 #[.func (.func 49) #[] #[.pointer (some p1), .pointer (some p2)]] w fun e w' => e = .returned (.tuple #[.slice none 0 0, .int .i64 2]) ∧ Below w.heap.size w w' := by
  have hmf : ∀ (fn : Fn) (first cap : Array Value) (w : World), (Instr.makeFunc fn first cap).run Tryd.prog w = .ok (.func fn first cap) w := fun _ _ _ _ => rfl
  have HW := Lib.hid HW
  go_enter_defers Tryd.func48, Tryd.ntmps48
  go_wp2_with fail
  refine (HW.out _ (by (repeat' (first | (with_reducible exact Below.refl _ _) | (with_reducible refine Below.alloc ?_ ?_ _) | (with_reducible refine Below.setCell ?_ ?_ _) | (with_reducible refine Below.drew ?_) | (with_reducible refine below_drewN ?_ _) | (with_reducible refine Below.trans ?_ (Below.mono (Hid.out (by assumption)) ?_)) | omega | (simp; done) | (simp; omega))))).mono ?_
  rintro e w1 ⟨rfl, hb⟩
  have hbk := (hb.block w.heap.size (by simp)).trans (halloc_at w _ _ rfl)
  have hc0 := Joins.cell_of_block hbk 0
  have hfr := Joins.unfrozen_of_block hbk 0
  simp at hc0
  have HBK := Lib.hid hbk
  have HB0 : Hid (Below w.heap.size w w1) := Lib.hid (((Below.refl _ _).alloc (Nat.le_refl _) _).trans (hb.mono (by simp)))
  clear hb hbk
  go_wp2_with fail
  refine leaves_cons (f := 62) (args := #[.pointer (some ⟨w.heap.size, 0, none⟩)]) (by simp) (by simp [go_sem]) ?_
  refine (bcatch_err ⟨w.heap.size, 0, none⟩ 0 E _ hc0 hfr).mono ?_
  rintro e u' w'' ⟨rfl, rfl, rfl⟩
  have hkx := Joins.cell_of_block (Joins.block_setCell (i := 0) HBK.out (.int .i64 2)) 0
  simp at hkx
  have hbel2 := Below.setCell (p := ⟨w.heap.size, 0, none⟩) HB0.out (Nat.le_refl _) (.int .i64 2)
  simp [Leaves, settle, results, Tryd.results48, go_sem, hkx]
  exact hbel2

end Go.Proofs.YtpphihjbgikjkaaDoor

namespace Go.Proofs.YtpphihjbgikjkaaDoor
open Go Go.RowKit

/-- The map of classes, or the error of what is not invariant. -/
def mocV (P : List Int) (t : Nat → Int) (n : Nat) : Value := if invT P t n = true then .tuple #[mv (nxK P n : Int) (qmF P t n), .int .i64 0] else .tuple #[mv 0 (fun _ => 0), .int .i64 5]

set_option maxRecDepth 100000 in
set_option maxHeartbeats 8000000 in
theorem imoc_any (P : List Int) (n : Nat) (hn : n ≤ 5) (hok : ∀ j, j < n → okP P j = true) (hPl : P.length = n) (t : Nat → Int) (ht : isB (n : Int) t = true) (aP : Option Addr) (cP : Nat) (aC : Option Addr) (cC : Nat) (w : World) (hrP : InRow w aP P) (hrC : InRowL w aC (clsK P n)) :
    Calls Tryd.prog 50 #[mv (n : Int) t, .slice aP n cP, .slice aC (nxK P n) cC] w fun e w' => e = .returned (mocV P t n) ∧ Below w.heap.size w w' := by
  have hvy : invT P t n = true → mocV P t n = .tuple #[mv (nxK P n : Int) (qmF P t n), .int .i64 0] := fun h => by unfold mocV; rw [if_pos h]
  have hvn : invT P t n = false → mocV P t n = .tuple #[mv 0 (fun _ => 0), .int .i64 5] := fun h => by unfold mocV; rw [if_neg (by rw [h]; exact Bool.false_ne_true)]
  obtain ⟨V, hV⟩ : ∃ V, V = mocV P t n := ⟨_, rfl⟩
  rw [← hV] at hvy hvn ⊢
  have HVY := Lib.hid hvy
  have HVN := Lib.hid hvn
  clear hV hvy hvn
  have HOK := Lib.hid hok
  have HT := Lib.hid ht
  have HP := Lib.hid hrP
  have HC := Lib.hid hrC
  have HL := Lib.hid hPl
  have hmn := nxK_le P n
  have HF := Lib.hid fun c hc => fpC_in (c := c) hok hc
  have HFU := Lib.hid fun c hc => rowP_full (c := c) hok hc
  have HQF : Hid (qmF P t n = qmK P t n (nxK P n)) := Lib.hid rfl
  have HCL := Lib.hid (clsK_len P n)
  have HCA := Lib.hid (clsK_at P n)
  clear hok ht hrP hrC hPl
  obtain ⟨m, hm⟩ : ∃ m, m = nxK P n := ⟨_, rfl⟩
  have HM := Lib.hid hm
  rw [← hm] at hmn HVY HF HFU HQF HCL HCA ⊢
  clear hm
  simp only [mv, mcells]
  go_enter Tryd.func50, Tryd.ntmps50
  go_wp2_with fail
  obtain ⟨wz, hwz⟩ : ∃ wz, wz = ((w.alloc (.cells (mcells (n : Int) t) 49)).alloc (.cells (mcells 0 fun _ => 0) 49)).alloc (.cells (mcells (m : Int) fun _ => 0) 49) := ⟨_, rfl⟩
  have HBZ : Hid (Below w.heap.size w wz) := Lib.hid (by rw [hwz]; (repeat' (first | (with_reducible exact Below.refl _ _) | (with_reducible refine Below.alloc ?_ ?_ _) | (with_reducible refine Below.setCell ?_ ?_ _) | (with_reducible refine Below.drew ?_) | (with_reducible refine below_drewN ?_ _) | (with_reducible refine Below.trans ?_ (Below.mono (Hid.out (by assumption)) ?_)) | omega | (simp; done) | (simp; omega))))
  have HZ0 : Hid (wz.heap[w.heap.size]? = some (.cells (mcells (n : Int) t) 49 (0, 0))) := Lib.hid (by rw [hwz]; exact (halloc_lt _ _ _ (by simp; omega)).trans ((halloc_lt _ _ _ (by simp)).trans (halloc_at _ _ _ rfl)))
  have HZ1 : Hid (wz.heap[w.heap.size + 1]? = some (.cells (mcells 0 fun _ => 0) 49 (0, 0))) := Lib.hid (by rw [hwz]; exact (halloc_lt _ _ _ (by simp)).trans (halloc_at _ _ _ (by simp)))
  have HZ2 : Hid (wz.heap[w.heap.size + 1 + 1]? = some (.cells (mcells (m : Int) (qmK P t n 0)) 49 (0, 0))) := Lib.hid (by rw [hwz, qmK_zero]; exact halloc_at _ _ _ (by simp))
  have hzs : w.heap.size + 1 + 1 < wz.heap.size := by rw [hwz]; simp
  have HZS := Lib.hid hzs
  simp only [mcells] at hwz
  rw [← hwz]
  clear hwz hzs
  go_loopw [9, 10, 12, 18] (fun _ _ _ i wr => ∃ k : Nat, k ≤ m ∧ i = .int .i64 (k : Int) ∧ wr.heap[w.heap.size]? = some (.cells (mcells (n : Int) t) 49 (0, 0)) ∧ wr.heap[w.heap.size + 1]? = some (.cells (mcells 0 fun _ => 0) 49 (0, 0)) ∧
      wr.heap[w.heap.size + 1 + 1]? = some (.cells (mcells (m : Int) (qmK P t n k)) 49 (0, 0)) ∧ (∀ c, c < k → ∀ p, p < n → P.getD p 0 = (c : Int) → P.getD (t p).toNat 0 = P.getD (t (fpC P n c)).toNat 0) ∧ Below w.heap.size w wr ∧ w.heap.size + 1 + 1 < wr.heap.size) (fun _ _ _ i _ => m - (intOf i).toNat)
  case atStart => exact ⟨0, by omega, rfl, HZ0.out, HZ1.out, HZ2.out, fun c hc => by omega, HBZ.out, HZS.out⟩
  case round =>
    obtain ⟨k, hk, rfl, b0, b1, b2, hin, hb, hsz⟩ := hrel
    have B0 := Lib.hid b0
    have B1 := Lib.hid b1
    have B2 := Lib.hid b2
    have HI := Lib.hid hin
    have HB := Lib.hid hb
    clear b0 b1 b2 hin hb
    obtain ⟨wo, hwo⟩ : ∃ wo, wo = wr := ⟨_, rfl⟩
    subst hwo
    by_cases hkm : k < m
    · have hkm' : (k : Int) < (m : Int) := by omega
      obtain ⟨bC, oC, rfl, hbC, hcC⟩ := HC.out.resolve_left (fun e => by have := HCL.out; rw [e] at this; simp at this; omega)
      obtain ⟨ar, cr, hrow, hir⟩ := hcC k (by rw [HCL.out]; exact hkm)
      rw [HCA.out k hkm] at hrow hir
      have hrow := (HB.out.cell (p := ⟨bC, oC + k, none⟩) hbC).trans hrow
      have hne := HFU.out k hkm
      have HRL := Lib.hid fun j hj => rowP_at (P := P) (c := k) (n := n) (j := j) hj
      have HRH := Lib.hid fun p hp h => rowP_has (P := P) (c := k) (n := n) (p := p) hp h
      have hrl := rowP_len P k n
      obtain ⟨f0, f1, f2⟩ := HF.out k hkm
      have HR0 := Lib.hid f0
      have HF1 := Lib.hid f1
      have HF2 := Lib.hid f2
      have HSU := Lib.hid (qmK_succ P t n k)
      clear hcC
      generalize rowP P k n = R at *
      obtain ⟨bR, oR, rfl, hbR, hcR⟩ := hir.resolve_left hne
      have hR0 : 0 < R.length := by
        cases R with
        | nil => exact absurd rfl hne
        | cons x l => simp
      have hR0' : (0 : Int) < (R.length : Int) := by omega
      have hx0 := (HB.out.cell (p := ⟨bR, oR + 0, none⟩) hbR).trans (hcR 0 hR0)
      rw [Nat.add_zero, f0] at hx0
      have HCR := Lib.hid hcR
      obtain ⟨q, hq⟩ : ∃ q, q = fpC P n k := ⟨_, rfl⟩
      rw [← hq] at hx0 HF1 HF2 HSU
      have HQ := Lib.hid hq
      obtain ⟨t0, t1, t5⟩ := ok_at HT.out q (by rw [hq]; omega)
      have htq := blk_at B0.out q t5
      obtain ⟨x, hx⟩ := Int.eq_ofNat_of_zero_le t0
      rw [hx] at htq HSU
      simp only [Int.toNat_natCast] at HSU
      have HX := Lib.hid hx
      have hxn : x < n := by omega
      obtain ⟨bP, oP, rfl, hbP, hcP⟩ := HP.out.resolve_left (fun e => by have := HL.out; rw [e] at this; simp at this; omega)
      have hpx := (HB.out.cell (p := ⟨bP, oP + x, none⟩) hbP).trans (hcP x (by rw [HL.out]; exact hxn))
      have HCP := Lib.hid hcP
      have hq5 : (q : Int) < 5 := by omega
      have hk5 : (k : Int) < 5 := by omega
      have hxn' : (x : Int) < (n : Int) := by omega
      have hgk := blk_at B2.out k (by omega)
      have hgf := blk_free B2.out (1 + k)
      have hbs := blk_set B2.out k (by omega) (P.getD x 0)
      rw [HSU.out] at hbs
      have hbl0 : w.heap.size < wo.heap.size := by omega
      obtain ⟨X, hX⟩ : ∃ X, X = P.getD x 0 := ⟨_, rfl⟩
      rw [← hX] at hpx hbs
      obtain ⟨wy, hwy⟩ : ∃ wy, wy = wo.setCell ⟨w.heap.size + 1 + 1, 1 + k, none⟩ (.int .i64 X) := ⟨_, rfl⟩
      rw [← hwy] at hbs
      have HBS := Lib.hid hbs
      have HXX := Lib.hid hX
      have hyz : wy.heap.size = wo.heap.size := by rw [hwy]; simp
      have HYB : Hid (∀ b, b ≠ w.heap.size + 1 + 1 → wy.heap[b]? = wo.heap[b]?) := Lib.hid fun b hb => by rw [hwy]; exact hset_ne _ _ _ _ hb
      have HYW : Hid (Below w.heap.size w wy) := Lib.hid (by rw [hwy]; exact HB.out.setCell (by simp; omega) _)
      clear hbs hX hq hx hcP hcR f0 f1 f2 hir hne t0 t1
      go_upto_region 6 with fail
      rw [← hwy]
      have hwl := HB.out.size
      have HY0 : Hid (wy.heap[w.heap.size]? = some (.cells (mcells (n : Int) t) 49 (0, 0))) := Lib.hid ((HYB.out _ (by omega)).trans B0.out)
      have HY1 : Hid (wy.heap[w.heap.size + 1]? = some (.cells (mcells 0 fun _ => 0) 49 (0, 0))) := Lib.hid ((HYB.out _ (by omega)).trans B1.out)
      have hbCy : bC < wy.heap.size := by omega
      have hbRy : bR < wy.heap.size := by omega
      have hbPy : bP < wy.heap.size := by omega
      have hly0 : w.heap.size < wy.heap.size := by omega
      have hly1 : w.heap.size + 1 < wy.heap.size := by omega
      have hly2 : w.heap.size + 1 + 1 < wy.heap.size := by omega
      have HGK : Hid (wy.cell? ⟨w.heap.size + 1 + 1, 1 + k, none⟩ = some (.int .i64 X)) := Lib.hid (by
        have h := blk_at HBS.out k (by omega)
        rw [qmK_at P t n (k + 1) k (by omega), ← HQ.out, HX.out, Int.toNat_natCast, ← HXX.out] at h
        exact h)
      clear hwy hpx hx0 htq hgk hgf hrow hyz
      go_wp2_with fail
      go_loopw [12, 37] (fun _ i wx => ∃ j mm : Nat, j ≤ R.length ∧ i = .int .i64 (j : Int) ∧ wx = wy.drewN mm ∧ ∀ i, i < j → ∀ p : Nat, R.getD i 0 = (p : Int) → P.getD (t p).toNat 0 = X) (fun _ i _ => R.length - (intOf i).toNat)
      case atStart => exact ⟨0, 0, by omega, rfl, rfl, fun i hi => by omega⟩
      case round =>
        obtain ⟨j, mm, hj, rfl, rfl, hal⟩ := hrel
        have HAL := Lib.hid hal
        clear hal
        by_cases hjr : j < R.length
        · have hjr' : (j : Int) < (R.length : Int) := by omega
          obtain ⟨p, ep, hpn, hpk⟩ := HRL.out j hjr
          have y1 := (HYW.out.cell (p := ⟨bR, oR + j, none⟩) hbR).trans (HCR.out j hjr)
          rw [ep] at y1
          have HEP := Lib.hid ep
          have HPK := Lib.hid hpk
          clear ep hpk
          obtain ⟨s0, s1, s5⟩ := ok_at HT.out p (by omega)
          obtain ⟨z, hz⟩ := Int.eq_ofNat_of_zero_le s0
          have y2 := blk_at HY0.out p s5
          rw [hz] at y2
          have hzn : z < n := by omega
          have hzn' : (z : Int) < (n : Int) := by omega
          have y3 := (HYW.out.cell (p := ⟨bP, oP + z, none⟩) hbP).trans (HCP.out z (by rw [HL.out]; exact hzn))
          have y4 := HGK.out
          have HZ := Lib.hid hz
          have hp5' : (p : Int) < 5 := by omega
          obtain ⟨Z, hZ⟩ : ∃ Z, Z = P.getD z 0 := ⟨_, rfl⟩
          rw [← hZ] at y3
          have HZZ := Lib.hid hZ
          clear hz s0 s1 hZ
          by_cases he : Z = X
          · subst he
            go_wp2_with fail
            go_quiet (fail)
            go_wp2_with fail
            go_roundw
            case rel =>
              refine ⟨j + 1, mm + nq, by omega, by go_num, by simp, fun i hi p2 h2 => ?_⟩
              by_cases e : i = j
              · subst e
                rw [HEP.out] at h2
                have e2 : p2 = p := by omega
                rw [e2, HZ.out, Int.toNat_natCast]
                exact HZZ.out.symm
              · exact HAL.out i (by omega) p2 h2
            case measure => simp [intOf]; omega
          · have hne : (Z != X) = true := by simpa using he
            have HNV : Hid (invT P t n = false) := Lib.hid (invT_no (a := p) (b := q) hpn (by have := HF1.out; omega) (by rw [HPK.out, HF2.out]) (by rw [HZ.out, HX.out, Int.toNat_natCast, Int.toNat_natCast, ← HZZ.out, ← HXX.out]; exact he))
            obtain ⟨r0, r1, r2, r3, r4, r5⟩ := blk6 HY1.out
            have hfr := blk_free HY1.out
            clear he
            go_wp2_with fail
            go_quiet (fail)
            go_wp2_with fail
            rw [HVN.out HNV.out]
            refine bodyPost_ret (v := .tuple #[mv 0 (fun _ => 0), .int .i64 5]) (by simp [results, Tryd.results50, go_sem, *]) rfl ⟨rfl, ?_⟩
            (repeat' (first | (with_reducible exact Below.refl _ _) | (with_reducible refine Below.alloc ?_ ?_ _) | (with_reducible refine Below.setCell ?_ ?_ _) | (with_reducible refine Below.drew ?_) | (with_reducible refine below_drewN ?_ _) | (with_reducible refine Below.trans ?_ (Below.mono (Hid.out (by assumption)) ?_)) | omega | (simp; done) | (simp; omega)))
        · obtain rfl : j = R.length := by omega
          have hjr' : ¬ ((R.length : Int) < (R.length : Int)) := by omega
          go_wp2_with fail
          go_roundw
          case rel =>
            refine ⟨k + 1, by omega, by go_num, ?_, ?_, ?_, fun c hc p hp h => ?_, below_drewN HYW.out _, ?_⟩
            · simpa using HY0.out
            · simpa using HY1.out
            · simpa using HBS.out
            · by_cases e : c = k
              · subst e
                obtain ⟨i, hi, h2⟩ := HRH.out p hp h
                rw [HAL.out i hi p h2, ← HQ.out, HX.out, Int.toNat_natCast]
                exact HXX.out
              · exact HI.out c (by omega) p hp h
            · simpa using hly2
          case measure => simp [intOf]; omega
    · obtain rfl : k = m := by omega
      have hkm' : ¬ ((k : Int) < (k : Int)) := by omega
      have HIV : Hid (invT P t n = true) := Lib.hid (invT_of HOK.out (fun c hc => HI.out c (by rw [HM.out]; exact hc)))
      obtain ⟨r0, r1, r2, r3, r4, r5⟩ := blk6 B1.out
      obtain ⟨g0, g1, g2, g3, g4, g5⟩ := blk6 B2.out
      have hfr := blk_free B1.out
      have hbl1 : w.heap.size + 1 < wo.heap.size := by omega
      generalize qmK P t n k = QM at *
      go_wp2_with fail
      rw [HVY.out HIV.out, HQF.out]
      refine bodyPost_ret (v := .tuple #[mv (k : Int) QM, .int .i64 0]) (by simp [results, Tryd.results50, go_sem, *]) rfl ⟨rfl, ?_⟩
      (repeat' (first | (with_reducible exact Below.refl _ _) | (with_reducible refine Below.alloc ?_ ?_ _) | (with_reducible refine Below.setCell ?_ ?_ _) | (with_reducible refine Below.drew ?_) | (with_reducible refine below_drewN ?_ _) | (with_reducible refine Below.trans ?_ (Below.mono (Hid.out (by assumption)) ?_)) | omega | (simp; done) | (simp; omega)))

end Go.Proofs.YtpphihjbgikjkaaDoor

namespace Go.Proofs.YtpphihjbgikjkaaDoor
open Go Go.RowKit

set_option maxRecDepth 100000 in
set_option maxHeartbeats 4000000 in
theorem clo_any (L : List MapN) (P : List Int) (n : Nat) (hn : n ≤ 5) (E : Addr) (hl : 0 < L.length) (b off : Nat) (cap : Nat) (a2 : Option Addr) (c2 b1 b2 : Nat) (w : World)
    (h1 : w.heap[b1]? = some (.cells #[.slice a2 P.length c2] 36 (0, 0))) (h2 : w.heap[b2]? = some (.cells #[.slice (some ⟨b, off, none⟩) L.length cap] 27 (0, 0))) (hbl : b < w.heap.size) (hx : w.cell? ⟨b, off, none⟩ = some (.int .i64 (n : Int)))
    (hr : InRow w a2 P) (hE : parB P n = false → w.cell? ⟨0, 0, none⟩ = some (.iface 96 (.pointer (some E)))) :
    Calls Tryd.prog 49 #[.pointer (some ⟨b1, 0, none⟩), .pointer (some ⟨b2, 0, none⟩)] w (RetCla P n E w) := by
  have HCL := Lib.hid fun z (hb : Below w.heap.size w z) => icla_any P n hn E a2 c2 z (hr.below hb) (fun h => (hb.cell (p := ⟨0, 0, none⟩) (World.block_lt_of_cell? w _ (hE h))).trans (hE h))
  have hl1 : b1 < w.heap.size := (Array.getElem?_eq_some_iff.1 h1).1
  have hl2 : b2 < w.heap.size := (Array.getElem?_eq_some_iff.1 h2).1
  have hl' : (0 : Int) < (L.length : Int) := by omega
  have e1 := Joins.cell_of_block h1 0
  have e2 := Joins.cell_of_block h2 0
  simp only [List.getElem?_toArray, List.getElem?_cons_zero] at e1 e2
  have r1 : ∀ z, Below w.heap.size w z → z.cell? ⟨b1, 0, none⟩ = some (.slice a2 P.length c2) := fun z h => (h.cell (p := ⟨b1, 0, none⟩) hl1).trans e1
  have r2 : ∀ z, Below w.heap.size w z → z.cell? ⟨b2, 0, none⟩ = some (.slice (some ⟨b, off, none⟩) L.length cap) := fun z h => (h.cell (p := ⟨b2, 0, none⟩) hl2).trans e2
  have r3 : ∀ z, Below w.heap.size w z → z.cell? ⟨b, off, none⟩ = some (.int .i64 (n : Int)) := fun z h => (h.cell (p := ⟨b, off, none⟩) hbl).trans hx
  clear hr hE h1 h2 e1 e2 hx
  obtain ⟨RT, hRT⟩ : ∃ RT, RT = RetCla P n E w := ⟨_, rfl⟩
  have HRT := Lib.hid hRT
  rw [← hRT]
  clear hRT
  cases hp : parB P n
  · have HCB : Hid (∀ z, Below w.heap.size w z → Calls Tryd.prog 39 #[.slice a2 P.length c2, .int .i64 (n : Int)] z fun e w' => e = .panicked [{ v := .iface 96 (.pointer (some E)), recovered := false }] ∧ Below z.heap.size z w') := Lib.hid fun z hz => (HCL.out z hz).mono fun e w' h => by
      unfold RetCla at h
      rw [hp] at h
      simpa using h
    have HP := Lib.hid hp
    clear hp HCL
    go_enter Tryd.func49, Tryd.ntmps49
    go_wp2_with fail
    have f1 := r1 w (Below.refl _ _)
    have f2 := r2 w (Below.refl _ _)
    have f3 := r3 w (Below.refl _ _)
    go_still_tail 5, (by kernel_rfl)
    go_wp2_with fail
    refine (HCB.out _ (by (repeat' (first | (with_reducible exact Below.refl _ _) | (with_reducible refine Below.alloc ?_ ?_ _) | (with_reducible refine Below.setCell ?_ ?_ _) | (with_reducible refine Below.drew ?_) | (with_reducible refine below_drewN ?_ _) | (with_reducible refine Below.trans ?_ (Below.mono (Hid.out (by assumption)) ?_)) | omega | (simp; done) | (simp; omega))))).mono ?_
    rintro e w1 ⟨rfl, hb⟩
    have HB := Lib.hid hb
    clear hb
    go_wp2_with fail
    rw [HRT.out]
    exact ⟨rfl, RetCla.bad HP.out (by (repeat' (first | (with_reducible exact Below.refl _ _) | (with_reducible refine Below.alloc ?_ ?_ _) | (with_reducible refine Below.setCell ?_ ?_ _) | (with_reducible refine Below.drew ?_) | (with_reducible refine below_drewN ?_ _) | (with_reducible refine Below.trans ?_ (Below.mono (Hid.out (by assumption)) ?_)) | omega | (simp; done) | (simp; omega))))⟩
  · have HCB : Hid (∀ z, Below w.heap.size w z → Calls Tryd.prog 39 #[.slice a2 P.length c2, .int .i64 (n : Int)] z fun e w' => ∃ v us, e = .returned v ∧ Trw w' z.heap.size v us (clsK P n) ∧ Below z.heap.size z w') := Lib.hid fun z hz => (HCL.out z hz).mono fun e w' h => by
      unfold RetCla at h
      rw [if_pos hp] at h
      exact h
    have HP := Lib.hid hp
    clear hp HCL
    go_enter Tryd.func49, Tryd.ntmps49
    go_wp2_with fail
    go_region_held3 (fun w' => Below w.heap.size w w') (first | (with_reducible assumption) | ((repeat' (first | (with_reducible exact Below.refl _ _) | (with_reducible refine Below.alloc ?_ ?_ _) | (with_reducible refine Below.setCell ?_ ?_ _) | (with_reducible refine Below.drew ?_) | (with_reducible refine below_drewN ?_ _) | (with_reducible refine Below.trans ?_ (Below.mono (Hid.out (by assumption)) ?_)) | omega | (simp; done) | (simp; omega))); done))
      (first | (go_at_call 39; (with_reducible refine (HCB.out _ (by (repeat' (first | (with_reducible exact Below.refl _ _) | (with_reducible refine Below.alloc ?_ ?_ _) | (with_reducible refine Below.setCell ?_ ?_ _) | (with_reducible refine Below.drew ?_) | (with_reducible refine below_drewN ?_ _) | (with_reducible refine Below.trans ?_ (Below.mono (Hid.out (by assumption)) ?_)) | omega | (simp; done) | (simp; omega))))).mono ?_); rintro e w1 ⟨v, us, rfl, ht, hb⟩; have HT := Lib.hid ht; have HB := Lib.hid hb; have hz := hb.size; clear hb ht) | fail "arm")
    all_goals go_wp2_with fail
    all_goals rw [HRT.out]
    all_goals exact RetCla.good HP.out (HT.out.low (by simp)) (by (repeat' (first | (with_reducible exact Below.refl _ _) | (with_reducible refine Below.alloc ?_ ?_ _) | (with_reducible refine Below.setCell ?_ ?_ _) | (with_reducible refine Below.drew ?_) | (with_reducible refine below_drewN ?_ _) | (with_reducible refine Below.trans ?_ (Below.mono (Hid.out (by assumption)) ?_)) | omega | (simp; done) | (simp; omega))))

theorem mocV_yes {P : List Int} {t : Nat → Int} {n : Nat} (h : invT P t n = true) : mocV P t n = .tuple #[mv (nxK P n : Int) (qmF P t n), .int .i64 0] := by unfold mocV; rw [if_pos h]
theorem mocV_no {P : List Int} {t : Nat → Int} {n : Nat} (h : invT P t n = false) : mocV P t n = .tuple #[mv 0 (fun _ => 0), .int .i64 5] := by unfold mocV; rw [if_neg (by rw [h]; exact Bool.false_ne_true)]

set_option maxRecDepth 100000 in
set_option maxHeartbeats 8000000 in
theorem iLoc_any (L : List MapN) (hl1 : L.length ≤ 1048576) (P : List Int) (_ : P.length ≤ 1048576) (a : Option Addr) (cap : Nat) (hc1 : a = none → cap = 0) (a2 : Option Addr) (c2 : Nat) (w : World) (hr : InRowM w a L) (hr2 : InRow w a2 P) (hE : Er w) :
    Calls Tryd.prog 29 #[.slice a L.length cap, .slice a2 P.length c2] w (RetRowN w.heap.size (locL L P) (locC L P) w) := by
  have hmf : ∀ (fn : Fn) (first cap : Array Value) (w : World), (Instr.makeFunc fn first cap).run Tryd.prog w = .ok (.func fn first cap) w := fun _ _ _ _ => rfl
  have HG := Lib.hid fun wx (hb : Below w.heap.size w wx) => check_any a none cap 0 L [] hc1 (fun _ => rfl) hl1 (by simp) wx (hr.below hb) (Or.inl rfl)
  obtain ⟨wz, hwz⟩ : ∃ wz, wz = (w.alloc (.cells #[.slice a L.length cap] 27)).alloc (.cells #[.slice a2 P.length c2] 36) := ⟨_, rfl⟩
  have HBZ : Hid (Below w.heap.size w wz) := Lib.hid (by rw [hwz]; (repeat' (first | (with_reducible exact Below.refl _ _) | (with_reducible refine Below.alloc ?_ ?_ _) | (with_reducible refine Below.setCell ?_ ?_ _) | (with_reducible refine Below.drew ?_) | (with_reducible refine below_drewN ?_ _) | (with_reducible refine Below.trans ?_ (Below.mono (Hid.out (by assumption)) ?_)) | omega | (simp; done) | (simp; omega))))
  have HZ0 : Hid (wz.heap[w.heap.size]? = some (.cells #[.slice a L.length cap] 27 (0, 0))) := Lib.hid (by rw [hwz]; exact (halloc_lt _ _ _ (by simp)).trans (halloc_at _ _ _ rfl))
  have HZ1 : Hid (wz.heap[w.heap.size + 1]? = some (.cells #[.slice a2 P.length c2] 36 (0, 0))) := Lib.hid (by rw [hwz]; exact halloc_at _ _ _ (by simp))
  have hzs : wz.heap.size = w.heap.size + 1 + 1 := by rw [hwz]; simp
  have e0 := Joins.cell_of_block HZ0.out 0
  have e1 := Joins.cell_of_block HZ1.out 0
  simp only [List.getElem?_toArray, List.getElem?_cons_zero] at e0 e1
  have HWZ := Lib.hid hwz
  have HZS := Lib.hid hzs
  clear hwz hzs
  by_cases hC : chkC L [] = 0
  · obtain ⟨n, hok, hn⟩ := LOk.of hC
    rw [hC] at HG
    have hn5 := hok.n5
    have hl : 0 < L.length := by have := hok.len1; omega
    have hl' : (0 : Int) < (L.length : Int) := by omega
    obtain ⟨b, off, rfl, hbl, hat⟩ := hr.at0 hl
    have h0 := hat.1
    rw [hok.pts 0 hl] at h0
    obtain ⟨E, hEE⟩ := hE
    have hE0 := World.block_lt_of_cell? w _ hEE
    have HCLO := Lib.hid fun wx (hb : Below wz.heap.size wz wx) => clo_any L P n hn5 E hl b off cap a2 c2 (w.heap.size + 1) w.heap.size wx
      ((hb.block _ (by rw [HZS.out]; omega)).trans HZ1.out) ((hb.block _ (by rw [HZS.out]; omega)).trans HZ0.out) (by have := hb.size; have := HZS.out; omega)
      (((HBZ.out.trans (hb.mono (by rw [HZS.out]; omega))).cell (p := ⟨b, off, none⟩) hbl).trans h0)
      (hr2.below (HBZ.out.trans (hb.mono (by rw [HZS.out]; omega))))
      (fun _ => ((HBZ.out.trans (hb.mono (by rw [HZS.out]; omega))).cell (p := ⟨0, 0, none⟩) hE0).trans hEE)
    cases hp : parB P n
    · have e5 : ptC L P = 2 := ptC_out hC hn hp
      have e6 : locC L P = 2 := by unfold locC; rw [if_neg (by rw [e5]; decide), e5]
      have e7 : locL L P = [] := by unfold locL; rw [if_neg (by rw [e6]; decide)]
      rw [e6, e7]
      have HBD := Lib.hid fun wx (hb : Below wz.heap.size wz wx) => bhd_bad E ⟨w.heap.size + 1, 0, none⟩ ⟨w.heap.size, 0, none⟩ wx (fun wy hy => (HCLO.out wy (hb.trans (hy.mono hb.size))).mono fun e w' h => by
        unfold RetCla at h
        rw [hp] at h
        simpa using h)
      clear hr hr2 hC hok hn hat h0 hp e5 e6 e7 HCLO hEE
      go_enter Tryd.func29, Tryd.ntmps29
      go_wp2_with fail
      rw [← HWZ.out]
      refine (HG.out _ HBZ.out).mono ?_
      rintro e w1 ⟨rfl, hb⟩
      have HB1 := Lib.hid hb
      clear hb
      go_wp2_with fail
      refine (HBD.out _ HB1.out).mono ?_
      rintro e w2 ⟨rfl, hb⟩
      have HB2 := Lib.hid hb
      clear hb
      go_wp2_with fail
      go_ret2
      exact ⟨none, 0, rfl, ⟨by simp, Or.inl rfl⟩, HBZ.out.trans ((HB1.out.trans (HB2.out.mono HB1.out.size)).mono HBZ.out.size)⟩
    · obtain ⟨hPl, hPo⟩ := parB_iff.1 hp
      have e5 : ptC L P = 0 := ptC_good hC hn hp
      have HBD := Lib.hid fun wx (hb : Below wz.heap.size wz wx) => bhd_good (clsK P n) ⟨w.heap.size + 1, 0, none⟩ ⟨w.heap.size, 0, none⟩ wx (fun wy hy => (HCLO.out wy (hb.trans (hy.mono hb.size))).mono fun e w' h => by
        unfold RetCla at h
        rw [if_pos hp] at h
        exact h)
      have HCO : Hid (invB L P n = true → locC L P = 0 ∧ locL L P = locM L P n) := Lib.hid fun h => by
        have e6 : locC L P = 0 := by unfold locC; rw [if_pos e5, hn, Int.toNat_natCast, if_pos h]
        exact ⟨e6, by unfold locL; rw [if_pos e6, hn, Int.toNat_natCast]⟩
      have HCN : Hid (invB L P n = false → locC L P = 5 ∧ locL L P = []) := Lib.hid fun h => by
        have e6 : locC L P = 5 := by unfold locC; rw [if_pos e5, hn, Int.toNat_natCast, h]; rfl
        exact ⟨e6, by unfold locL; rw [if_neg (by rw [e6]; decide)]⟩
      have HK := Lib.hid hok
      have HPO := Lib.hid hPo
      have HR := Lib.hid hr
      have HP := Lib.hid hr2
      have HL := Lib.hid hPl
      have hmn := nxK_le P n
      have hl6 := hok.len6
      have HCLL := Lib.hid (clsK_len P n)
      have HRLL := Lib.hid (clsK_rlen P n)
      have HMO := Lib.hid fun t ht a4 c4 wx h1 h2 => imoc_any P n hn5 hPo hPl t ht a2 c2 a4 c4 wx h1 h2
      rw [hPl] at e1 HWZ ⊢
      clear hr hr2 hC hok hn hat h0 hp e5 HCLO hEE hPl hPo
      obtain ⟨RC, hRC⟩ : ∃ RC, RC = locC L P := ⟨_, rfl⟩
      obtain ⟨RL, hRL⟩ : ∃ RL, RL = locL L P := ⟨_, rfl⟩
      rw [← hRC, ← hRL] at HCO HCN
      rw [← hRC, ← hRL]
      clear hRC hRL
      obtain ⟨m, hm⟩ : ∃ m, m = nxK P n := ⟨_, rfl⟩
      have HM := Lib.hid hm
      rw [← hm] at HCLL hmn HMO
      clear hm
      go_enter Tryd.func29, Tryd.ntmps29
      go_wp2_with fail
      rw [← HWZ.out]
      refine (HG.out _ HBZ.out).mono ?_
      rintro e w1 ⟨rfl, hb⟩
      have HB1 := Lib.hid hb
      clear hb
      go_wp2_with fail
      refine (HBD.out _ HB1.out).mono ?_
      rintro e w2 ⟨v, us, rfl, ht, hb⟩
      obtain ⟨a4, c4, rfl, hrt⟩ := ht.rdT (by rw [HCLL.out]; omega) (fun j _ => by have := HRLL.out j; omega)
      rw [HCLL.out]
      have HCI := Lib.hid hrt.inRowL
      have HB2 : Hid (Below wz.heap.size wz w2) := Lib.hid (HB1.out.trans (hb.mono HB1.out.size))
      have hz2 := HB2.out.size
      have hzz := HZS.out
      have hx0 := (HB2.out.cell (p := ⟨w.heap.size, 0, none⟩) (by rw [HZS.out]; show w.heap.size < _; omega)).trans e0
      have r1 : ∀ z, Below wz.heap.size wz z → z.cell? ⟨w.heap.size + 1, 0, none⟩ = some (.slice a2 n c2) := fun z h => (h.cell (p := ⟨w.heap.size + 1, 0, none⟩) (by rw [HZS.out]; show w.heap.size + 1 < _; omega)).trans e1
      have HR1 := Lib.hid r1
      clear ht hrt hb r1
      go_wp2_with fail
      go_loopw [8, 10, 11, 12, 28] (fun v _ _ _ i wr => ∃ k : Nat, k ≤ L.length ∧ i = .int .i64 (k : Int) ∧ OwnM wr w2.heap.size v (locM (L.take k) P n) ∧ (∀ i, i < k → invT P (L.getD i z0).2 n = true) ∧ Below w2.heap.size w2 wr) (fun _ _ _ _ i _ => L.length - (intOf i).toNat)
      case atStart => exact ⟨0, by omega, rfl, World.ownsRow_nil _ _ _ _, fun i hi => by omega, Below.refl _ _⟩
      case round =>
        obtain ⟨k, hk, rfl, hown, hin, hb⟩ := hrel
        have HO := Lib.hid hown
        have HI := Lib.hid hin
        have HB := Lib.hid hb
        have hsr := hb.size
        have HBW : Hid (Below wz.heap.size wz wr) := Lib.hid (HB2.out.trans (hb.mono hz2))
        have HBWW : Hid (Below w.heap.size w wr) := Lib.hid (HBZ.out.trans (HBW.out.mono (by omega)))
        clear hown hin hb
        obtain ⟨wo, hwo⟩ : ∃ wo, wo = wr := ⟨_, rfl⟩
        subst hwo
        by_cases hkl : k < L.length
        · have hkl' : (k : Int) < (L.length : Int) := by omega
          obtain ⟨bL, oL, hab, hbL, x0, x1, x2, x3, x4, x5⟩ := (HR.out.below HBWW.out).at6 k hkl
          injection hab with hab
          injection hab with hab1 hab2 _
          subst hab1 hab2
          rw [HK.out.pts k hkl] at x0
          have hib := HK.out.isb k hkl
          obtain ⟨t, hT⟩ : ∃ t, t = (L.getD k z0).2 := ⟨_, rfl⟩
          rw [← hT] at x1 x2 x3 x4 x5 hib
          have HT := Lib.hid hT
          have HIB := Lib.hid hib
          clear hT hib
          have y1 := HR1.out wo HBW.out
          have hy1l : w.heap.size + 1 < wo.heap.size := by omega
          have HMK := Lib.hid fun wx (hb : Below wo.heap.size wo wx) => HMO.out t HIB.out a4 c4 wx (HP.out.below (HBWW.out.trans (hb.mono HBWW.out.size))) (HCI.out.below (HB.out.trans (hb.mono hsr)))
          cases hi : invT P t n
          · have HF := Lib.hid (HCN.out (invB_no hkl (by rw [← HT.out]; exact hi)))
            rw [mocV_no hi] at HMK
            clear hi
            simp only [mv, mcells] at HMK
            go_wp2_with fail
            refine (HMK.out _ (by (repeat' (first | (with_reducible exact Below.refl _ _) | (with_reducible refine Below.alloc ?_ ?_ _) | (with_reducible refine Below.setCell ?_ ?_ _) | (with_reducible refine Below.drew ?_) | (with_reducible refine below_drewN ?_ _) | (with_reducible refine Below.trans ?_ (Below.mono (Hid.out (by assumption)) ?_)) | omega | (simp; done) | (simp; omega))))).mono ?_
            rintro e w5 ⟨rfl, hb⟩
            have hz5 := hb.size
            simp only [World.size_alloc] at hz5
            have HB5 : Hid (Below w.heap.size w w5) := Lib.hid ((HBWW.out.alloc HBWW.out.size _).trans (hb.mono (by simp; omega)))
            clear hb
            go_wp2_with fail
            go_ret2
            rw [HF.out.1, HF.out.2]
            exact ⟨none, 0, rfl, ⟨by simp, Or.inl rfl⟩, HB5.out.alloc (by omega) _⟩
          · have HNI : Hid (∀ i, i < k + 1 → invT P (L.getD i z0).2 n = true) := Lib.hid fun i h => by
              by_cases e : i = k
              · rw [e, ← HT.out]; exact hi
              · exact HI.out i (by omega)
            have HSU := Lib.hid (locM_succ P n hkl)
            rw [← HT.out, ← HM.out] at HSU
            have HLT : Hid ((locM (L.take k) P n).length = k) := Lib.hid (by rw [locM_len, List.length_take]; omega)
            rw [mocV_yes hi, ← HM.out] at HMK
            clear hi
            generalize qmF P t n = Q at *
            simp only [mv, mcells] at HMK
            go_wp2_with fail
            refine (HMK.out _ (by (repeat' (first | (with_reducible exact Below.refl _ _) | (with_reducible refine Below.alloc ?_ ?_ _) | (with_reducible refine Below.setCell ?_ ?_ _) | (with_reducible refine Below.drew ?_) | (with_reducible refine below_drewN ?_ _) | (with_reducible refine Below.trans ?_ (Below.mono (Hid.out (by assumption)) ?_)) | omega | (simp; done) | (simp; omega))))).mono ?_
            rintro e w5 ⟨rfl, hb⟩
            have hz5 := hb.size
            simp only [World.size_alloc] at hz5
            have HB5 : Hid (Below w2.heap.size w2 w5) := Lib.hid ((HB.out.alloc hsr _).trans (hb.mono (by simp; omega)))
            have HO5 : Hid (OwnM w5 w2.heap.size u8 (locM (L.take k) P n)) := Lib.hid ((Turn.of_below (S := fun _ => False) (((Below.refl _ _).alloc (Nat.le_refl _) _).trans (hb.mono (by simp)))).own HO.out (fun _ _ h => h))
            clear hb
            go_wp2_with (at_builtin; refine wpList_apM1 rfl _ _ rfl w2.heap.size _ (locM (L.take k) P n) rfl (World.ownsRow.alloc (World.ownsRow.alloc HO5.out _) _) (w5.heap.size + 1) 1 ((m : Int), Q) rfl (halloc_at _ _ _ (by simp)) (by rw [HLT.out]; omega) (by simp; omega) ?_; intro v6 w6 ho6 hg6)
            rw [← HSU.out] at ho6
            have HO6 := Lib.hid ho6
            have HB6 : Hid (Below w2.heap.size w2 w6) := Lib.hid (((HB5.out.alloc (by omega) _).alloc (by simp; omega) _).grown hg6 (by simp; omega) (fun r e => (HO5.out.lt r e).1))
            clear ho6 hg6
            go_roundw
            case rel => exact ⟨k + 1, by omega, by go_num, HO6.out, HNI.out, HB6.out⟩
            case measure => simp [intOf]; omega
        · obtain rfl : k = L.length := by omega
          have hkl' : ¬ ((L.length : Int) < (L.length : Int)) := by omega
          have HF := Lib.hid (HCO.out (invB_iff.2 HI.out))
          rw [List.take_length] at HO
          obtain ⟨a5, c5, rfl, hrd⟩ := ownM_rd HO.out (by rw [locM_len]; omega)
          have HRD := Lib.hid hrd
          clear hrd
          go_wp2_with fail
          go_ret2
          rw [HF.out.1, HF.out.2]
          exact ⟨a5, c5, rfl, HRD.out.mono (by omega), HBWW.out⟩
  · have e6 : ptC L P = chkC L [] := ptC_bad hC
    have e7 : locC L P = chkC L [] := by unfold locC; rw [if_neg (by rw [e6]; exact hC), e6]
    have e8 : locL L P = [] := by unfold locL; rw [if_neg (by rw [e7]; exact hC)]
    rw [e7, e8]
    have hne : (chkC L [] != 0) = true := by simpa using hC
    clear hr hr2 hC e6 e7 e8 hE
    generalize chkC L [] = C at *
    go_enter Tryd.func29, Tryd.ntmps29
    go_wp2_with fail
    rw [← HWZ.out]
    refine (HG.out _ HBZ.out).mono ?_
    rintro e w1 ⟨rfl, hb⟩
    have HB1 := Lib.hid hb
    clear hb
    go_wp2_with fail
    go_ret2
    exact ⟨none, 0, rfl, ⟨by simp, Or.inl rfl⟩, HBZ.out.trans (HB1.out.mono HBZ.out.size)⟩

end Go.Proofs.YtpphihjbgikjkaaDoor

namespace Go.Proofs.YtpphihjbgikjkaaDoor
open Go Go.RowKit

/-- Whether a partition is invariant, with its code. -/
def iipB (L : List MapN) (P : List Int) : Bool := locC L P == 0
def iipV (L : List MapN) (P : List Int) : Value := .tuple #[.bool (iipB L P), .int .i64 (ptC L P)]

set_option maxRecDepth 100000 in
set_option maxHeartbeats 4000000 in
theorem iIip_any (L : List MapN) (hl1 : L.length ≤ 1048576) (P : List Int) (hl2 : P.length ≤ 1048576) (a : Option Addr) (cap : Nat) (hc1 : a = none → cap = 0) (a2 : Option Addr) (c2 : Nat) (w : World) (hr : InRowM w a L) (hr2 : InRow w a2 P) (hE : Er w) :
    Calls Tryd.prog 22 #[.slice a L.length cap, .slice a2 P.length c2] w fun e w' => e = .returned (iipV L P) ∧ Below w.heap.size w w' := by
  have HL := Lib.hid (iLoc_any L hl1 P hl2 a cap hc1 a2 c2 w hr hr2 hE)
  unfold iipV iipB
  have hcases : (locC L P = 0 ∧ ptC L P = 0) ∨ (locC L P = 5 ∧ ptC L P = 0) ∨ (locC L P = ptC L P ∧ locC L P ≠ 0 ∧ locC L P ≠ 5) := by
    by_cases hC : ptC L P = 0
    · by_cases hi : invB L P (fst0 L).toNat = true
      · exact Or.inl ⟨by unfold locC; rw [if_pos hC, if_pos hi], hC⟩
      · exact Or.inr (Or.inl ⟨by unfold locC; rw [if_pos hC, if_neg hi], hC⟩)
    · refine Or.inr (Or.inr ?_)
      have e : locC L P = ptC L P := by unfold locC; rw [if_neg hC]
      rw [e]
      refine ⟨rfl, hC, ?_⟩
      unfold ptC chkC
      (repeat' split) <;> decide
  clear hr hr2 hE
  rcases hcases with ⟨h1, h2⟩ | ⟨h1, h2⟩ | ⟨h1, h2, h3⟩
  · rw [h1] at HL
    rw [h1, h2]
    clear h1 h2
    generalize locL L P = R at *
    go_enter Tryd.func22, Tryd.ntmps22
    go_wp2_with fail
    refine HL.out.mono ?_
    rintro e w1 ⟨a1, c1, rfl, _, hb⟩
    have HB := Lib.hid hb
    clear hb
    go_wp2_with fail
    go_ret2
    exact ⟨rfl, HB.out⟩
  · rw [h1] at HL
    rw [h1, h2]
    clear h1 h2
    generalize locL L P = R at *
    go_enter Tryd.func22, Tryd.ntmps22
    go_wp2_with fail
    refine HL.out.mono ?_
    rintro e w1 ⟨a1, c1, rfl, _, hb⟩
    have HB := Lib.hid hb
    clear hb
    go_wp2_with fail
    go_ret2
    exact ⟨rfl, HB.out⟩
  · rw [← h1]
    have hd : decide (locC L P = 5) = false := by simpa using h3
    have hd2 : (locC L P == 5) = false := by simpa using h3
    have hd0 : (locC L P == 0) = false := by simpa using h2
    rw [hd0]
    clear h1 h2 h3
    generalize locL L P = R at *
    generalize locC L P = C at *
    go_enter Tryd.func22, Tryd.ntmps22
    go_wp2_with fail
    refine HL.out.mono ?_
    rintro e w1 ⟨a1, c1, rfl, _, hb⟩
    have HB := Lib.hid hb
    clear hb
    go_wp2_with fail
    go_ret2
    exact ⟨rfl, HB.out⟩

set_option maxRecDepth 100000 in
set_option maxHeartbeats 4000000 in
theorem sIip_any (L : List MapN) (hl1 : L.length ≤ 1048576) (P : List Int) (_ : P.length ≤ 1048576) (a : Option Addr) (cap : Nat) (_ : a = none → cap = 0) (a2 : Option Addr) (c2 : Nat) (w : World) (hr : InRowM w a L) (hr2 : InRow w a2 P) :
    Calls Tryd.prog 20 #[.slice a L.length cap, .slice a2 P.length c2] w fun e w' => e = .returned (iipV L P) ∧ Below w.heap.size w w' := by
  have HG := Lib.hid (sgv10_any L hl1 P a cap a2 c2 w hr hr2)
  unfold iipV iipB
  by_cases hC : ptC L P = 0
  · obtain ⟨hck, hpb⟩ := ptC_zero hC
    obtain ⟨n, hok, hn⟩ := LOk.of hck
    rw [hn, Int.toNat_natCast] at hpb
    obtain ⟨hPl, hPo⟩ := parB_iff.1 hpb
    have HI := Lib.hid fun wx (hb : Below w.heap.size w wx) => sinv_any L hok P hPl a cap a2 c2 wx (hr.below hb) (hr2.below hb)
    have e1 : (locC L P == 0) = invB L P n := by
      unfold locC
      rw [if_pos hC, hn, Int.toNat_natCast]
      cases invB L P n <;> rfl
    rw [e1, hC]
    rw [hC] at HG
    clear hr hr2 hC hck hpb hok hn hPl hPo e1
    generalize invB L P n = B at *
    go_enter Tryd.func20, Tryd.ntmps20
    go_wp2_with fail
    refine HG.out.mono ?_
    rintro e w1 ⟨rfl, hb⟩
    have HB1 := Lib.hid hb
    clear hb
    go_wp2_with fail
    refine (HI.out _ HB1.out).mono ?_
    rintro e w2 ⟨rfl, hb⟩
    have HB2 := Lib.hid hb
    clear hb
    go_wp2_with fail
    go_ret2
    exact ⟨rfl, HB1.out.trans (HB2.out.mono HB1.out.size)⟩
  · have e1 : locC L P = ptC L P := by unfold locC; rw [if_neg hC]
    have hd0 : (ptC L P == 0) = false := by simpa using hC
    have hne : (ptC L P != 0) = true := by simpa using hC
    rw [e1, hd0]
    clear hr hr2 hC e1 hd0
    generalize ptC L P = C at *
    go_enter Tryd.func20, Tryd.ntmps20
    go_wp2_with fail
    refine HG.out.mono ?_
    rintro e w1 ⟨rfl, hb⟩
    have HB1 := Lib.hid hb
    clear hb
    go_wp2_with fail
    go_ret2
    exact ⟨rfl, HB1.out⟩

end Go.Proofs.YtpphihjbgikjkaaDoor
