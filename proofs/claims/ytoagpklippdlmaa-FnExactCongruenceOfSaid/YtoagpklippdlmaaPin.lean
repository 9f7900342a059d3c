/- Classes as an array: the contracts of (productTable).classList and impl.arrayOfClasses. Two arrays of classes compared by ==. First elements of classes and pairs of them: the contracts of (productTable).firstsOf and pairsIn. -/
import Derived.Test.YtoagpklippdlmaaNm
import Derived.Deep.MidRow
import Derived.Laws.CopyOwn
import Derived.DeepKeys
import Derived.Test.YtoagpklippdlmaaTb
import Derived.Maps.AppendAt
namespace Go.Proofs.Ytoagpklippdlmaa
open Go Go.RowKit

/-- The cells of an array of classes. -/
def acl (L : List Int) : List Value := (L ++ List.replicate (30 - L.length) 0).map (Value.int .i64)

def ac (L : List Int) : Array Value := (acl L).toArray

theorem acl_len {L : List Int} (h : L.length ≤ 30) : (acl L).length = 30 := by unfold acl; simp; omega

theorem ac_size {L : List Int} (h : L.length ≤ 30) : (ac L).size = 30 := by unfold ac; simp [acl_len h]

theorem acl_at (L : List Int) (i : Nat) (h : i < 30) : (acl L)[i]? = some (.int .i64 (L.getD i 0)) := by
  unfold acl
  by_cases c : i < L.length
  · rw [List.getElem?_map, List.getElem?_append_left c, List.getElem?_eq_getElem c, List.getD_eq_getElem?_getD, List.getElem?_eq_getElem c]; rfl
  · rw [List.getElem?_map, List.getElem?_append_right (by omega), List.getElem?_replicate, if_pos (by omega), List.getD_eq_getElem?_getD, List.getElem?_eq_none (by omega)]; rfl

theorem ac_at (L : List Int) (i : Nat) (h : i < 30) : (ac L)[i]? = some (.int .i64 (L.getD i 0)) := by
  unfold ac
  rw [List.getElem?_toArray]; exact acl_at L i h

theorem ac_one (L : List Int) : (ac L).all (·.oneCell') = true := all_oneCell_toArray (by
  intro v hv
  unfold acl at hv
  obtain ⟨x, _, rfl⟩ := List.mem_map.1 hv
  rfl)

theorem size_arr : (Try.prog.info? 64).map (·.size) = some 30 := by kernel_rfl

theorem size_i : (Try.prog.info? 2).map (·.size) = some 1 := by kernel_rfl

set_option maxRecDepth 100000 in
set_option maxHeartbeats 1000000 in
theorem clist_any (m : Nat) (hm : m ≤ 30) (C : Array Value) (hC : C.size = 30) (a : Option Addr) (c : Nat) (w : World) :
    Calls Try.prog 50 #[.slice a m c, .agg C] w fun e w' => e = .returned (.slice (some ⟨w.heap.size, 0, none⟩) m 30) ∧ w' = w.alloc (.cells C 64) := by
  have HC := Lib.hid hC
  clear hC
  have hm' : (m : Int) ≤ 30 := by omega
  go_enter Try.func50, Try.ntmps50
  go_wp2_with fail
  go_ret
  exact ⟨rfl, rfl⟩

theorem splice30 (L : List Int) (_ : L.length ≤ 30) : splice (acl []) 0 (L.map (Value.int .i64)) = acl L := by
  unfold splice acl
  simp only [List.nil_append, List.length_nil, Nat.sub_zero, List.take_zero, List.length_map, Nat.zero_add, List.map_append, List.map_replicate, List.drop_replicate]

set_option maxRecDepth 100000 in
set_option maxHeartbeats 1000000 in
theorem arrC_any (L : List Int) (h30 : L.length ≤ 30) (a : Option Addr) (c : Nat) (w : World) (h : InRow w a L) :
    Calls Try.prog 85 #[.slice a L.length c] w fun e w' => e = .returned (.agg (ac L)) ∧ Below w.heap.size w w' := by
  have hmk : ∀ w : World, (Instr.makeSlice 26 (.int .i64 30) (.int .i64 30)).run Try.prog w = .ok (.slice (some ⟨w.heap.size, 0, none⟩) 30 30) (w.alloc (.cells (acl []).toArray 2)) := fun _ => by kernel_rfl
  have hz : ∀ w : World, (zeroValue 64).run Try.prog w = .ok (.agg (acl []).toArray) w := fun _ => by kernel_rfl
  have HN := Lib.hid h
  have HSP := Lib.hid (splice30 L h30)
  have h0 := acl_len (L := []) (by simp)
  have HL := Lib.hid (acl_len h30)
  clear h
  go_enter Try.func85, Try.ntmps85
  go_wp2_with (with_reducible refine wpList_copy_splice rfl (.tmp 5) (.tmp 6) 26 26 rfl 2 Try.underlying26 size_i _ _ _ _ _ _ rfl rfl (w.heap.size + 1) 0 (acl []) 2 ?c1 (L.map (Value.int .i64)) ?c2 ?c3 ?c4 ?c5 (w.heap.size + 1) (w.alloc (.cells (acl []).toArray 64)) ?c6 ?c7 ?_)
  case c1 => exact halloc_at (w.alloc (.cells (acl []).toArray 64)) (.cells (acl []).toArray 2) _ (by simp)
  case c2 => rw [List.length_map]; exact (Nat.min_eq_left h30).symm
  case c3 =>
    intro hpos
    (try rw [List.length_map] at hpos)
    obtain ⟨b, off, rfl, hlt, hc⟩ := HN.out.resolve_left (fun e => by rw [e] at hpos; simp at hpos)
    first
      | refine ⟨_, rfl, fun j x hj => ?_⟩
      | refine ⟨rfl, _, rfl, fun j x hj => ?_⟩
    all_goals
      have hjl : j < L.length := by
        rcases Nat.lt_or_ge j L.length with h | h
        · exact h
        · rw [List.getElem?_eq_none h] at hj; cases hj
      have e1 := hc j hjl
      have hadd : (⟨b, off, none⟩ : Addr).add j = ⟨b, off + j, none⟩ := by cases j <;> simp [Addr.add]
      rw [hadd, World.cell?_alloc_lt _ _ _ (by simp; omega), World.cell?_alloc_lt _ _ _ hlt, e1]
      rw [List.getElem?_eq_getElem hjl] at hj
      simp at hj
      simp [hjl, hj]
  case c4 => rw [List.length_map, h0]; omega
  case c5 => intro v hv; simp at hv; obtain ⟨x, _, rfl⟩ := hv; rfl
  case c6 => exact (Below.refl _ _).alloc (by simp) _
  case c7 => exact Nat.le_refl _
  intro w1 hg hb
  have hg' := hg.out
  rw [HSP.out] at hg'
  have hb' := hb.block w.heap.size (by omega)
  rw [halloc_at _ _ _ rfl] at hb'
  have hsz := hb.size
  have HB1 : Hid (Below w.heap.size w w1) := Lib.hid (((Below.refl _ _).alloc (Nat.le_refl _) _).trans (hb.mono (Nat.le_succ _)))
  have BG := Lib.hid hg'
  have BR := Lib.hid hb'
  have hat : ∀ x : World, (Instr.arrayAt 64 (.slice (some ⟨w.heap.size + 1, 0, none⟩) 30 30)).run Try.prog x = .ok (.pointer (some ⟨w.heap.size + 1, 0, none⟩)) x := fun x => run_arrayAt x 64 _ 30 _ 30 30 Try.underlying64 (by omega)
  clear hg hb hg' hb' HSP HN hmk hz
  have HA : Hid ((acl L).toArray = ac L) := Lib.hid rfl
  rw [HA.out] at BG
  have hs1 := ac_size h30
  have ho1 := ac_one L
  generalize hCE : ac L = C at *
  have HCE := Lib.hid hCE
  clear hCE
  generalize hZ : (acl []).toArray = Z at *
  have hzs : Z.size = 30 := by rw [← hZ]; simp [h0]
  clear hZ h0 HL HA
  have HZS := Lib.hid hzs
  have HCS := Lib.hid hs1
  have HO1 := Lib.hid ho1
  clear hzs hs1 ho1
  go_wp2_with (first
    | (with_reducible refine wpList_load_row rfl 64 (.tmp 9) rfl (w.heap.size + 1) rfl 2 C (0, 0) _ BG.out Try.underlying64 rfl ?sl ?_)
    | (with_reducible refine wpList_store_row rfl 64 (.tmp 2) (.tmp 10) rfl w.heap.size C rfl rfl 64 Z BR.out ?sa ?sb HO1.out ?_))
  case sl => rw [HCS.out]; exact size_arr
  case sa => rw [HCS.out]; exact size_arr
  case sb => rw [HZS.out, HCS.out]
  refine bodyPost_ret (v := .agg C) (results_cell_row Try.results85 _ _ w.heap.size 64 C (0, 0) _ rfl (setRow_heap _ _ Z _ _ _ BR.out) Try.underlying64 rfl (by rw [HCS.out]; exact size_arr)) rfl ⟨by rw [HCE.out], ?_⟩
  exact below_setRow HB1.out (Nat.le_refl _) _

end Go.Proofs.Ytoagpklippdlmaa

namespace Go.Proofs.Ytoagpklippdlmaa
open Go Go.RowKit

theorem aeq_cellsI : Try.prog.cellsOf 2 = 1 := by kernel_rfl

theorem aeq_cells30 : Try.prog.cellsOf 64 = 30 := by kernel_rfl

/-- The numbers of an array of classes. -/
def an (L : List Int) : List Int := L ++ List.replicate (30 - L.length) 0

theorem an_len {L : List Int} (h : L.length ≤ 30) : (an L).length = 30 := by unfold an; simp; omega

theorem an_wf {L : List Int} (hw : ∀ x ∈ L, (Lit.int .i64 x).wf = true) : ∀ x ∈ an L, (Lit.int .i64 x).wf = true := by
  intro x hx
  unfold an at hx
  rcases List.mem_append.1 hx with h | h
  · exact hw x h
  · rw [(List.mem_replicate.1 h).2]; decide

theorem aeq_int (d : Nat) (x : Int) (h : (Lit.int .i64 x).wf = true) : Try.prog.keyLits (d + 1) 2 [.int .i64 x] = some [.int .i64 x] := by
  unfold Program.keyLits
  simp only [Try.underlying2]
  simp [h]

theorem mapM_all {α β : Type} (f : α → Option β) (g : α → β) : ∀ l : List α, (∀ x ∈ l, f x = some (g x)) → l.mapM f = some (l.map g)
  | [], _ => rfl
  | x :: l, h => by
    rw [List.mapM_cons, h x (List.mem_cons_self), mapM_all f g l fun y hy => h y (List.mem_cons_of_mem _ hy)]
    rfl

theorem flat_single : ∀ l : List Int, (l.map fun x => [Lit.int .i64 x]).flatten = l.map (Lit.int .i64)
  | [] => rfl
  | x :: l => by rw [List.map_cons, List.flatten_cons, flat_single l]; rfl

theorem lits30 (d : Nat) (L : List Int) (h : L.length ≤ 30) (hw : ∀ x ∈ L, (Lit.int .i64 x).wf = true) : Try.prog.keyLits (d + 1 + 1) 64 (acl L) = some ((an L).map (Lit.int .i64)) := by
  have hl := an_len h
  have hwf := an_wf hw
  have hacl : acl L = (an L).map (Value.int .i64) := rfl
  rw [hacl]
  generalize an L = A at *
  unfold Program.keyLits
  simp only [Try.underlying64, aeq_cells30, aeq_cellsI]
  rw [if_pos (by rw [List.length_map, hl])]
  rw [mapM_all _ (fun i => [Lit.int .i64 (A.getD i 0)]) _ (fun i hi => by
    have hi := List.mem_range.1 hi
    have hil : i < A.length := by omega
    rw [Nat.mul_one, List.drop_eq_getElem_cons (by rw [List.length_map]; exact hil), List.take_succ_cons, List.take_zero, List.getElem_map]
    rw [aeq_int d _ (hwf _ (List.getElem_mem hil)), List.getD_eq_getElem?_getD, List.getElem?_eq_getElem hil]
    rfl)]
  have e : (List.range 30).map (fun i => [Lit.int .i64 (A.getD i 0)]) = A.map fun x => [Lit.int .i64 x] := by
    apply List.ext_getElem
    · rw [List.length_map, List.length_map, List.length_range, hl]
    · intro i h1 h2
      rw [List.getElem_map, List.getElem_map, List.getElem_range, List.getD_eq_getElem?_getD, List.getElem?_eq_getElem (by rw [List.length_map] at h2; exact h2)]
      rfl
  rw [e]
  show Option.map List.flatten (some _) = _
  rw [Option.map_some, flat_single]

theorem an_inj {L M : List Int} (hl : L.length = M.length) (h : (an L).map (Lit.int .i64) = (an M).map (Lit.int .i64)) : L = M := by
  have e : an L = an M := by
    have := congrArg (List.map fun x : Lit => match x with | .int _ n => n | _ => 0) h
    rw [List.map_map, List.map_map] at this
    have hid : ((fun x : Lit => match x with | .int _ n => n | _ => 0) ∘ Lit.int .i64) = (id : Int → Int) := rfl
    rw [hid, List.map_id, List.map_id] at this
    exact this
  unfold an at e
  exact (List.append_inj e hl).1

theorem form30 {L : List Int} (h : L.length ≤ 30) : (Value.agg (ac L)).formed Try.prog 64 = true := by
  unfold Value.formed
  simp only [Try.underlying64, aeq_cells30]
  rw [ac_size h]; rfl

theorem eq30 (L M : List Int) (hL : L.length ≤ 30) (hl : L.length = M.length) (hwL : ∀ x ∈ L, (Lit.int .i64 x).wf = true) (hwM : ∀ x ∈ M, (Lit.int .i64 x).wf = true) (w : World) :
    (binOp .eql 64 (.agg (ac L)) (.agg (ac M))).run Try.prog w = .ok (.bool (decide (L = M))) w := by
  have hE := run_equalIn_deep (P := Try.prog) 9998 2 64 (by kernel_rfl)
  obtain ⟨r, hr, hiff⟩ := hE w 2 2 (.agg (ac L)) (.agg (ac M)) _ _ (form30 hL) (form30 (by omega)) (lits30 0 L hL hwL) (lits30 0 M (by omega) hwM)
  rw [run_eql_struct]
  rw [show (10000 : Nat) = 9998 + 2 from rfl, hr]
  have hb : r = decide (L = M) := by
    rw [Bool.eq_iff_iff, hiff, decide_eq_true_eq]
    exact ⟨fun h => an_inj hl h, fun h => by rw [h]⟩
  rw [hb]
  rfl

end Go.Proofs.Ytoagpklippdlmaa

namespace Go.Proofs.Ytoagpklippdlmaa
open Go Go.RowKit

/-- The first elements of the classes, among the first k. -/
def frs (L : List Int) (k : Nat) : List Nat := (List.range k).filter fun i => fst1 (tL L) i == i

theorem frs_len (L : List Int) (k : Nat) : (frs L k).length = rkK (tL L) k := rfl

theorem frs_succ (L : List Int) (k : Nat) : frs L (k + 1) = if fst1 (tL L) k = k then frs L k ++ [k] else frs L k := by
  unfold frs
  rw [List.range_succ, List.filter_append]
  by_cases h : fst1 (tL L) k = k <;> simp [h]

theorem frs_mono (L : List Int) (i : Nat) : ∀ {k : Nat}, i < rkK (tL L) k → ∀ {m : Nat}, k ≤ m → (frs L m).getD i 0 = (frs L k).getD i 0 := by
  intro k hi m hm
  obtain ⟨d, rfl⟩ := Nat.exists_eq_add_of_le hm
  clear hm
  induction d with
  | zero => rfl
  | succ d ih =>
    rw [← ih, show k + (d + 1) = k + d + 1 from rfl, frs_succ]
    split
    · have h1 := rkK_mono (tL L) k (k + d) (by omega)
      rw [← frs_len] at h1
      rw [← frs_len] at hi
      rw [← frs_len] at h1
      rw [List.getD_eq_getElem?_getD, List.getD_eq_getElem?_getD, List.getElem?_append_left (by omega)]
    · rfl

theorem frs_at {L : List Int} {f m : Nat} (hf : f < m) (h : fst1 (tL L) f = f) : (frs L m).getD (rkK (tL L) f) 0 = f := by
  have h1 : rkK (tL L) f < rkK (tL L) (f + 1) := by rw [rkK_succ, if_pos h]; omega
  rw [frs_mono L _ h1 hf, frs_succ, if_pos h, List.getD_eq_getElem?_getD, List.getElem?_append_right (by rw [frs_len]; omega), frs_len, Nat.sub_self]
  rfl

/-- Classes with their numbers as told. -/
def Cls (L : List Int) (m : Nat) : Prop := L.length = m ∧ kerK (tL L) m = L

theorem Cls.val {L : List Int} {m : Nat} (h : Cls L m) {i : Nat} (hi : i < m) : tL L i = kvK (tL L) i := by
  have := kerK_getD (tL L) m i hi
  rw [h.2] at this
  exact this

theorem Cls.first {L : List Int} {m : Nat} (h : Cls L m) {i : Nat} (hi : i < m) : tL L i = rkK (tL L) i ↔ fst1 (tL L) i = i := by rw [h.val hi]; exact kvK_new _ _

theorem Cls.fst {L : List Int} {m : Nat} (h : Cls L m) {i : Nat} (hi : i < m) : tL L i = (rkK (tL L) (fst1 (tL L) i) : Nat) ∧ rkK (tL L) (fst1 (tL L) i) < (frs L m).length ∧ (frs L m).getD (rkK (tL L) (fst1 (tL L) i)) 0 = fst1 (tL L) i := by
  obtain ⟨h1, h2, _⟩ := fst1_at (tL L) i
  have hf : fst1 (tL L) (fst1 (tL L) i) = fst1 (tL L) i := fst1_eq h1
  refine ⟨h.val hi, ?_, frs_at (by omega) hf⟩
  rw [frs_len]
  exact rkK_lt _ _ _ (by omega) hf

theorem Cls.bd {L : List Int} {m : Nat} (h : Cls L m) {i : Nat} (hi : i < m) : 0 ≤ tL L i ∧ tL L i < m := by
  have := kvK_bd (tL L) i
  rw [h.val hi]; omega

theorem Cls.wf {L : List Int} {m : Nat} (h : Cls L m) (hm : m ≤ 1000) : ∀ x ∈ L, (Lit.int .i64 x).wf = true := fun x hx => by
  obtain ⟨i, hi, rfl⟩ := List.getElem_of_mem hx
  have := h.bd (i := i) (by rw [← h.1]; exact hi)
  have e : tL L i = L[i] := by unfold tL; rw [List.getD_eq_getElem?_getD, List.getElem?_eq_getElem hi]; rfl
  rw [← e]
  exact WalkArith.wf_i64 (by omega)

/-- The pairs of first elements and elements. -/
def pin (L : List Int) (k : Nat) : List (Nat × Nat) := (List.range k).map fun i => (fst1 (tL L) i, i)

theorem pin_len (L : List Int) (k : Nat) : (pin L k).length = k := by unfold pin; simp
theorem pin_succ (L : List Int) (k : Nat) : pin L (k + 1) = pin L k ++ [(fst1 (tL L) k, k)] := by unfold pin; rw [List.range_succ, List.map_append]; rfl

/-- The cells of pairs. -/
def pcl (P : List (Nat × Nat)) : List Value := P.flatMap fun x => [.int .i64 (x.1 : Nat), .int .i64 (x.2 : Nat)]

theorem pcl_app (P Q : List (Nat × Nat)) : pcl (P ++ Q) = pcl P ++ pcl Q := by unfold pcl; rw [List.flatMap_append]

theorem pcl_len : ∀ P : List (Nat × Nat), (pcl P).length = P.length * 2
  | [] => rfl
  | x :: P => by unfold pcl; rw [List.flatMap_cons, List.length_append, show (List.flatMap _ P).length = (pcl P).length from rfl, pcl_len P, List.length_cons]; simp; omega

theorem pcl_one : ∀ (P : List (Nat × Nat)) (u : Value), u ∈ pcl P → u.oneCell' = true
  | [], u, h => by cases h
  | x :: P, u, h => by
    unfold pcl at h
    rw [List.flatMap_cons] at h
    rcases List.mem_append.1 h with h | h
    · simp at h; rcases h with rfl | rfl <;> rfl
    · exact pcl_one P u h

theorem pcl_at : ∀ (P : List (Nat × Nat)) (j : Nat), j < P.length → (pcl P)[j * 2]? = some (.int .i64 ((P.getD j (0, 0)).1 : Nat)) ∧ (pcl P)[j * 2 + 1]? = some (.int .i64 ((P.getD j (0, 0)).2 : Nat))
  | [], j, h => by simp at h
  | x :: P, 0, _ => ⟨rfl, rfl⟩
  | x :: P, j + 1, h => by
    have ih := pcl_at P j (by simpa using h)
    rw [show (j + 1) * 2 = j * 2 + 2 by omega]
    exact ih

/-- A list of pairs that came in. -/
def InRowP (w : World) (a : Option Addr) (P : List (Nat × Nat)) : Prop :=
  P = [] ∨ ∃ b, a = some ⟨b, 0, none⟩ ∧ b < w.heap.size ∧ ∀ j, j < P.length → w.cell? ⟨b, j * 2, none⟩ = some (.int .i64 ((P.getD j (0, 0)).1 : Nat)) ∧ w.cell? ⟨b, j * 2 + 1, none⟩ = some (.int .i64 ((P.getD j (0, 0)).2 : Nat))

theorem InRowP.below {w w' : World} {a : Option Addr} {P : List (Nat × Nat)} (h : InRowP w a P) (hb : Below w.heap.size w w') : InRowP w' a P := by
  rcases h with h0 | ⟨b, ha, hlt, hc⟩
  · exact Or.inl h0
  · exact Or.inr ⟨b, ha, Nat.lt_of_lt_of_le hlt hb.size, fun j hj => ⟨(hb.cell (p := ⟨b, j * 2, none⟩) hlt).trans (hc j hj).1, (hb.cell (p := ⟨b, j * 2 + 1, none⟩) hlt).trans (hc j hj).2⟩⟩

/-- A list of pairs of the call's own. -/
def OwnP (w : World) (B : Nat) (v : Value) (P : List (Nat × Nat)) : Prop := w.ownsRow B 100 2 v P.length (pcl P)

theorem ownP_in {w : World} {B : Nat} {v : Value} {P : List (Nat × Nat)} (h : OwnP w B v P) : ∃ a cap, v = .slice a P.length cap ∧ InRowP w a P := by
  rcases h.2 with ⟨h1, h0⟩ | ⟨g, cap, cur, h1, hB, hg, hn, hcap, hsz, htk⟩
  · exact ⟨none, 0, by rw [h1, h0], Or.inl (List.length_eq_zero_iff.1 h0)⟩
  · refine ⟨_, cap, h1, Or.inr ⟨g, rfl, (Array.getElem?_eq_some_iff.1 hg).1, fun j hj => ?_⟩⟩
    have hx := pcl_at P j hj
    have hl := pcl_len P
    have e : ∀ i, i < P.length * 2 → cur[i]? = (pcl P)[i]? := fun i hi => by
      rw [← htk, List.getElem?_take, if_pos (by omega), Array.getElem?_toList]
    rw [Joins.cell_of_block hg, Joins.cell_of_block hg, e _ (by omega), e _ (by omega)]
    exact hx

theorem info_pair : (Try.prog.info? 100).map (fun i => (i.zero, i.size, i.bytes)) = some (some (.agg #[.int .i64 0, .int .i64 0]), 2, 16) := by kernel_rfl

set_option maxRecDepth 100000 in
set_option maxHeartbeats 2000000 in
theorem firsts_any (m : Nat) (hm : m ≤ 30) (L : List Int) (hL : Cls L m) (a : Option Addr) (c : Nat) (w : World) :
    Calls Try.prog 66 #[.slice a m c, .agg (ac L)] w (RetOwn w.heap.size ((frs L m).map fun x : Nat => (x : Int)) w) := by
  have HA := Lib.hid fun i hi => ac_at L i hi
  have HC := Lib.hid hL
  have hsz := ac_size (L := L) (by rw [hL.1]; exact hm)
  have HSZ := Lib.hid hsz
  obtain ⟨i0, hi, hz0, hz1, hz2⟩ := info_parts info_int
  clear hL hsz
  generalize hAC : ac L = C at *
  clear hAC
  go_enter Try.func66, Try.ntmps66
  go_wp2_with fail
  go_loopw [5, 6, 9] (fun v _ i wr => ∃ k : Nat, k ≤ m ∧ i = .int .i64 k ∧ Own wr (w.heap.size + 1) v ((frs L k).map fun x : Nat => (x : Int)) ∧ Below (w.heap.size + 1) (w.alloc (.cells C 64)) wr) (fun _ _ i _ => m - (intOf i).toNat)
  case atStart => exact ⟨0, by omega, rfl, World.ownsRow_nil _ _ _ _, Below.refl _ _⟩
  case round =>
    obtain ⟨k, hk, rfl, hown, hb⟩ := hrel
    have HOW := Lib.hid hown
    have HB := Lib.hid hb
    have hbs := hb.size
    simp at hbs
    have hbx := (hb.block w.heap.size (Nat.lt_succ_self _)).trans (halloc_at w (.cells C 64) _ rfl)
    clear hb hown
    by_cases hkm : k < m
    · have hkm' : (k : Int) < (m : Int) := by omega
      have hk30 : k < 30 := by omega
      have hk30' : (k : Int) < 30 := by omega
      have e1 := (Joins.cell_of_block hbx k).trans (HA.out k hk30)
      have HV := Lib.hid (HC.out.first hkm)
      have HS := Lib.hid (frs_succ L k)
      have hrl : ((frs L k).map fun x : Nat => (x : Int)).length = rkK (tL L) k := by rw [List.length_map, frs_len]
      have hrk := rkK_le (tL L) k
      rw [show L.getD k 0 = tL L k from rfl] at e1
      clear hbx
      by_cases hf : fst1 (tL L) k = k
      · have hq : (tL L k == (rkK (tL L) k : Int)) = true := by simpa using HV.out.2 hf
        have hS := HS.out
        rw [if_pos hf] at hS
        have HS2 : Hid (((frs L (k + 1)).map fun x : Nat => (x : Int)) = ((frs L k).map fun x : Nat => (x : Int)) ++ [(k : Int)]) := Lib.hid (by rw [hS, List.map_append]; rfl)
        clear hf hS HV HS
        generalize ((frs L k).map fun x : Nat => (x : Int)) = R0 at *
        generalize tL L k = X at *
        generalize rkK (tL L) k = RK at *
        obtain ⟨av, capv, rfl⟩ : ∃ av capv, u5 = .slice av R0.length capv := by
          rcases HOW.out.2 with ⟨h1, h0⟩ | ⟨g, cap, cur, h1, _⟩
          · exact ⟨none, 0, by rw [h1, h0]⟩
          · exact ⟨_, cap, h1⟩
        have HOW2 : Hid (wr.ownsRow (w.heap.size + 1) 2 1 (.slice av RK capv) RK (R0.map (Value.int .i64))) := Lib.hid (by
          have h := HOW.out
          unfold Own at h
          rw [hrl] at h
          exact h)
        rw [hrl]
        go_wp2_with (at_builtin; go_loud (refine wpList_append_own _ rfl _ _ 26 rfl (w.heap.size + 1) 2 i0 (.int .i64 0) 1 8 Try.underlying26 hi hz0 hz1 hz2 rfl (by decide) (.slice av RK capv) RK (R0.map (Value.int .i64)) rfl (HOW2.out.alloc _) ⟨wr.heap.size, 0, none⟩ 1 1 [.int .i64 (k : Int)] rfl rfl (cell_one_new _ _ _) (ints_oneCell .i64 [(k : Int)]) (by unfold maxLen; omega) (by omega) (by simp; omega) ?_); intro v' w2 hown' hgrow _)
        have HO2 : Hid (Own w2 (w.heap.size + 1) v' ((frs L (k + 1)).map fun x : Nat => (x : Int))) := Lib.hid (by
          unfold Own
          rw [HS2.out, List.map_append, List.length_append, hrl]
          exact hown')
        have HB2 : Hid (Below (w.heap.size + 1) (w.alloc (.cells C 64)) w2) := Lib.hid ((HB.out.alloc (by omega) _).grown hgrow (by simp; omega) (fun r e => by
          have h := HOW.out.lt r
          rw [hrl] at h
          exact (h e).1))
        clear hown' hgrow
        go_wp2_with fail
        go_roundw
        case rel => exact ⟨k + 1, by omega, by go_num, HO2.out, HB2.out⟩
        case measure => simp [intOf]; omega
      · have hq : (tL L k == (rkK (tL L) k : Int)) = false := by
          rw [beq_eq_false_iff_ne]; exact fun e => hf (HV.out.1 e)
        have hS := HS.out
        rw [if_neg hf] at hS
        have HS2 := Lib.hid hS
        clear hf hS HV HS
        obtain ⟨av, capv, rfl⟩ : ∃ av capv, u5 = .slice av ((frs L k).map fun x : Nat => (x : Int)).length capv := by
          rcases HOW.out.2 with ⟨h1, h0⟩ | ⟨g, cap, cur, h1, _⟩
          · exact ⟨none, 0, by rw [h1, h0]⟩
          · exact ⟨_, cap, h1⟩
        rw [hrl]
        generalize tL L k = X at *
        generalize hRK : rkK (tL L) k = RK at *
        go_wp2_with fail
        go_roundw
        case rel => exact ⟨k + 1, by omega, by go_num, by rw [HS2.out]; have h := HOW.out; rw [hrl] at h; exact h, HB.out⟩
        case measure => simp [intOf]; omega
    · obtain rfl : k = m := by omega
      clear hbx
      go_wp2_with fail
      go_ret
      exact ⟨_, rfl, Joins.ownsRow_le HOW.out (Nat.le_succ _), bel_new HB.out (Nat.le_succ _)⟩

/-- append of a pair onto a list of pairs of the call's own. -/
theorem wpList_appP {ops : Array Oper} {rest : List Oper} {o : Oper} {ac : Act} {Q : Exit → Act → World → Prop} {w : World} (hgd : o.guard = none) (s x : Operand)
    (ho : o.op = .call { callee := .builtin .append, args := #[s, x], argTypes := #[59, 59] })
    (base : Nat) (v : Value) (P : List (Nat × Nat)) (hs : ac.eval s = v) (hown : OwnP w base v P) (b c p q : Nat) (hx : ac.eval x = .slice (some ⟨b, 0, none⟩) 1 c) (hb : w.heap[b]? = some (.cells #[.int .i64 (p : Nat), .int .i64 (q : Nat)] 100 (0, 0)))
    (hlen : P.length ≤ 1000000) (hbase : base ≤ w.heap.size)
    (h : ∀ v' w', OwnP w' base v' (P ++ [(p, q)]) → w.grownBy w' v.ownBlock → wpList Try.prog ops Q rest (ac.put o.dst v') w') : wpList Try.prog ops Q (o :: rest) ac w := by
  obtain ⟨i0, hi, hz0, hz1, hz2⟩ := info_parts info_pair
  refine wpList_append_own_at w hgd s x _ ho base 100 i0 _ 2 16 Try.underlying59 hi hz0 hz1 hz2 rfl (by decide) v P.length (pcl P) hs hown ⟨b, 0, none⟩ 1 c (pcl [(p, q)]) hx rfl (fun j u hj => ?_) (pcl_one _) (by unfold maxLen; omega) (by omega) hbase ?_
  · have hadd : (⟨b, 0, none⟩ : Addr).add j = ⟨b, j, none⟩ := by cases j <;> simp [Addr.add]
    rw [hadd, Joins.cell_of_block hb j, ← hj]
    simp [pcl]
  · intro v' w' h1 h2 _ _
    refine h v' w' ?_ h2
    unfold OwnP
    rw [pcl_app, List.length_append]
    exact h1

theorem size_arr1 (C : Array Value) (h : C.size = 30) : (Try.prog.info? 64).map (·.size) = some C.size := by rw [h]; exact size_arr

set_option maxRecDepth 100000 in
set_option maxHeartbeats 2000000 in
theorem pairsIn_any (m : Nat) (hm : m ≤ 30) (hm1 : 1 ≤ m) (L : List Int) (hL : Cls L m) (a : Option Addr) (c : Nat) (w : World) :
    Calls Try.prog 57 #[.slice a m c, .agg (ac L)] w fun e w' => ∃ v, e = .returned v ∧ OwnP w' w.heap.size v (pin L m) ∧ Below w.heap.size w w' := by
  have HF := Lib.hid fun w => firsts_any m hm L hL a c w
  have HA := Lib.hid fun i hi => ac_at L i hi
  have HC := Lib.hid hL
  have hsz := ac_size (L := L) (by rw [hL.1]; exact hm)
  have HSZ := Lib.hid (size_arr1 _ hsz)
  have hfl : (frs L m).length ≤ 1000 := by
    rw [frs_len]
    have := rkK_le (tL L) m
    omega
  clear hL hsz
  generalize hAC : ac L = C at *
  clear hAC
  go_enter Try.func57, Try.ntmps57
  have hbx0 := halloc_at w (.cells C 64) _ rfl
  go_wp2_with (with_reducible refine wpList_load_row rfl 64 (.tmp 3) rfl w.heap.size rfl 64 C (0, 0) _ hbx0 Try.underlying64 rfl HSZ.out ?_)
  refine (HF.out _).mono ?_
  rintro e w1 ⟨v, rfl, hown, hb⟩
  obtain ⟨af, cf, rfl, hcf⟩ := own_cellz hown (by rw [List.length_map]; omega)
  have hbx1 := (hb.block w.heap.size (by simp)).trans hbx0
  have hs1 := hb.size
  simp at hs1
  have HB1 : Hid (Below w.heap.size w w1) := Lib.hid (bel_new hb (by simp))
  rw [List.length_map] at hcf
  have HCF := Lib.hid hcf
  have HBX := Lib.hid hbx1
  clear hown hb hcf hbx1 hbx0
  go_wp2_with fail
  go_loopw [6, 7, 13] (fun v _ i wr => ∃ k : Nat, k ≤ m ∧ i = .int .i64 k ∧ OwnP wr w1.heap.size v (pin L k) ∧ Below w1.heap.size w1 wr) (fun _ _ i _ => m - (intOf i).toNat)
  case atStart => exact ⟨0, by omega, rfl, World.ownsRow_nil _ _ _ _, Below.refl _ _⟩
  case round =>
    obtain ⟨k, hk, rfl, hown, hb⟩ := hrel
    have HOW := Lib.hid hown
    have HB := Lib.hid hb
    have hbs := hb.size
    by_cases hkm : k < m
    · have hkm' : (k : Int) < (m : Int) := by omega
      have hk30 : k < 30 := by omega
      have hk30' : (k : Int) < 30 := by omega
      have hbxr := (hb.block w.heap.size (by omega)).trans HBX.out
      have e1 := (Joins.cell_of_block hbxr k).trans (HA.out k hk30)
      rw [show L.getD k 0 = tL L k from rfl] at e1
      obtain ⟨f1, f2, f3⟩ := HC.out.fst hkm
      rw [f1] at e1
      have hfl2 : rkK (tL L) (fst1 (tL L) k) < (frs L m).length := f2
      obtain ⟨g, rfl, hgc⟩ := HCF.out _ hfl2
      have hgv : ((frs L m).map fun x : Nat => (x : Int)).getD (rkK (tL L) (fst1 (tL L) k)) 0 = (fst1 (tL L) k : Nat) := by
        have hx := f3
        rw [List.getD_eq_getElem?_getD] at hx ⊢
        rw [List.getElem?_map]
        rw [List.getElem?_eq_getElem f2] at hx ⊢
        simp only [Option.map_some, Option.getD_some] at hx ⊢
        omega
      rw [hgv] at hgc
      have hgl : g < w1.heap.size := World.block_lt_of_cell? w1 _ hgc
      have e2 := (hb.cell (p := ⟨g, rkK (tL L) (fst1 (tL L) k), none⟩) hgl).trans hgc
      have hfl3 : ((rkK (tL L) (fst1 (tL L) k) : Nat) : Int) < ((frs L m).length : Int) := by omega
      have HPS : Hid (pin L (k + 1) = pin L k ++ [(fst1 (tL L) k, k)]) := Lib.hid (pin_succ L k)
      have hpl := pin_len L k
      clear hb hown hbxr f1 f2 f3 hgv hgc hfl2
      generalize fst1 (tL L) k = F at *
      generalize rkK (tL L) F = RK at *
      generalize (frs L m).length = FL at *
      generalize pin L k = P0 at *
      go_wp2_with (at_builtin; refine wpList_appP rfl _ _ rfl w1.heap.size _ P0 rfl (show OwnP _ _ _ _ from (HOW.out : wr.ownsRow _ _ _ _ _ _).alloc _) wr.heap.size 1 F k rfl (halloc_at _ _ _ rfl) (by omega) (by simp; omega) ?_; intro v' w2 hown' hgrow)
      have HO2 : Hid (OwnP w2 w1.heap.size v' (pin L (k + 1))) := Lib.hid (by rw [HPS.out]; exact hown')
      have HB2 : Hid (Below w1.heap.size w1 w2) := Lib.hid ((HB.out.alloc hbs _).grown hgrow (by simp; omega) (fun r e => (HOW.out.lt r e).1))
      clear hown' hgrow
      go_wp2_with fail
      go_roundw
      case rel => exact ⟨k + 1, by omega, by go_num, HO2.out, HB2.out⟩
      case measure => simp [intOf]; omega
    · obtain rfl : k = m := by omega
      clear hb hown
      go_wp2_with fail
      go_ret
      exact ⟨_, rfl, Joins.ownsRow_le HOW.out (by omega), HB1.out.trans (HB.out.mono (by omega))⟩

end Go.Proofs.Ytoagpklippdlmaa
