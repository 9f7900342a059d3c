/- slices.DeleteFunc on a list of maps of the call's own, at any function value whose answer is known at each map. slices.Index and slices.Contains at lists of maps. (*monoid).elementsBelow. -/
import Derived.Test.YtiogagaclhjdaaaBck
import Derived.Test.YtiogagaclhjdaaaMhas
import Derived.Lib.SliceRun
import Derived.Deep.DeepCutAuto
import Derived.Deep.RegionHeld3
import Derived.Test.YtiogagaclhjdaaaOrd
namespace Go.Proofs.Ytiogagaclhjdaaa
open Go Go.RowKit

theorem block_set {w : World} {b i T : Nat} {cur : Array Value} (v : Value) (h : w.heap[b]? = some (.cells cur T (0, 0))) : ∃ cur2, (w.setCell ⟨b, i, none⟩ v).heap[b]? = some (.cells cur2 T (0, 0)) := ⟨_, Joins.block_setCell h v⟩

theorem block_set6 {w : World} {b o T : Nat} {cur : Array Value} (p t0 t1 t2 t3 t4 : Value) (h : w.heap[b]? = some (.cells cur T (0, 0))) : ∃ cur2, (set6 w b o p t0 t1 t2 t3 t4).heap[b]? = some (.cells cur2 T (0, 0)) := by
  obtain ⟨c1, h⟩ := block_set (i := o) p h
  obtain ⟨c2, h⟩ := block_set (i := o + 1) t0 h
  obtain ⟨c3, h⟩ := block_set (i := o + 2) t1 h
  obtain ⟨c4, h⟩ := block_set (i := o + 3) t2 h
  obtain ⟨c5, h⟩ := block_set (i := o + 4) t3 h
  exact block_set (i := o + 5) t4 h

theorem block_setCells {b T : Nat} : ∀ (vs : List Value) (o : Nat) {w : World} {cur : Array Value}, w.heap[b]? = some (.cells cur T (0, 0)) → ∃ cur2, (w.setCells b o vs).heap[b]? = some (.cells cur2 T (0, 0))
  | [], _, _, cur, h => ⟨cur, h⟩
  | v :: r, o, w, cur, h => by
    obtain ⟨c1, h⟩ := block_set (i := o) v h
    exact block_setCells r (o + 1) h

theorem turn_setCells {a : World} {S : Nat → Prop} {g : Nat} : ∀ (vs : List Value) (o : Nat) {b : World}, Turn a b S → S g → Turn a (b.setCells g o vs) S
  | [], _, _, h, _ => h
  | v :: r, o, _, h, hS => turn_setCells r (o + 1) (h.setCell (o := o) (v := v) hS) hS

theorem turn_set6 {a b : World} {S : Nat → Prop} {g o : Nat} {p t0 t1 t2 t3 t4 : Value} (h : Turn a b S) (hS : S g) : Turn a (set6 b g o p t0 t1 t2 t3 t4) S :=
  ((((((h.setCell hS).setCell hS).setCell hS).setCell hS).setCell hS).setCell hS)

theorem PutRow.set {w : World} {B g cap : Nat} {M : List MapN} (h : PutRow w B g cap M) (i : Nat) (hi : i < M.length) (x : MapN) :
    PutRow (set6 w g (i * 6) (.int .i64 x.1) (.int .i64 (x.2 0)) (.int .i64 (x.2 1)) (.int .i64 (x.2 2)) (.int .i64 (x.2 3)) (.int .i64 (x.2 4))) B g cap (M.set i x) := by
  obtain ⟨cur, hc⟩ := h.ty
  refine ⟨by rw [List.length_set]; exact h.le, h.mx, h.lo, by have := h.hi; simpa using this, fun j hj => ?_, block_set6 _ _ _ _ _ _ hc⟩
  rw [List.length_set] at hj
  by_cases e : j = i
  · subst e
    have e2 : (M.set j x).getD j z0 = x := by rw [List.getD_eq_getElem?_getD, List.getElem?_set_self (by omega)]; rfl
    rw [e2]
    have hat := h.cells j hj
    unfold AtM at hat ⊢
    simp only [Nat.zero_add] at hat ⊢
    have h6 := set6_at w g (j * 6) (.int .i64 x.1) (.int .i64 (x.2 0)) (.int .i64 (x.2 1)) (.int .i64 (x.2 2)) (.int .i64 (x.2 3)) (.int .i64 (x.2 4)) (fun i hi => by
      obtain ⟨a0, a1, a2, a3, a4, a5⟩ := hat
      rcases (by omega : i = 0 ∨ i = 1 ∨ i = 2 ∨ i = 3 ∨ i = 4 ∨ i = 5) with rfl | rfl | rfl | rfl | rfl | rfl
      · exact ⟨_, a0⟩
      · exact ⟨_, a1⟩
      · exact ⟨_, a2⟩
      · exact ⟨_, a3⟩
      · exact ⟨_, a4⟩
      · exact ⟨_, a5⟩)
    exact h6
  · have e2 : (M.set i x).getD j z0 = M.getD j z0 := by rw [List.getD_eq_getElem?_getD, List.getElem?_set_ne (fun e3 => e e3.symm), ← List.getD_eq_getElem?_getD]
    rw [e2]
    have hat := h.cells j hj
    unfold AtM at hat ⊢
    rw [set6_ne _ _ _ _ _ _ _ _ _ _ _ (by omega), set6_ne _ _ _ _ _ _ _ _ _ _ _ (by omega), set6_ne _ _ _ _ _ _ _ _ _ _ _ (by omega), set6_ne _ _ _ _ _ _ _ _ _ _ _ (by omega), set6_ne _ _ _ _ _ _ _ _ _ _ _ (by omega), set6_ne _ _ _ _ _ _ _ _ _ _ _ (by omega)]
    exact hat

theorem PutRow.cut {w : World} {B g cap : Nat} {M : List MapN} (h : PutRow w B g cap M) (i : Nat) (hi : i ≤ M.length) (vs : List Value) : PutRow (w.setCells g (i * 6) vs) B g cap (M.take i) := by
  obtain ⟨cur, hc⟩ := h.ty
  obtain ⟨cur2, hc2⟩ := block_setCells vs (i * 6) hc
  refine ⟨Nat.le_trans (by rw [List.length_take]; omega) h.le, h.mx, h.lo, (Array.getElem?_eq_some_iff.1 hc2).1, fun j hj => ?_, _, hc2⟩
  rw [List.length_take] at hj
  have e2 : (M.take i).getD j z0 = M.getD j z0 := by rw [List.getD_eq_getElem?_getD, List.getElem?_take_of_lt (by omega), ← List.getD_eq_getElem?_getD]
  rw [e2]
  have hat := h.cells j (by omega)
  have ho : ∀ k, k < 6 → (w.setCells g (i * 6) vs).cell? ⟨g, 0 + j * 6 + k, none⟩ = w.cell? ⟨g, 0 + j * 6 + k, none⟩ := fun k hk => World.cell?_setCells_out g vs (i * 6) w _ (fun _ _ => Or.inl (show 0 + j * 6 + k < i * 6 by omega))
  have h0 := ho 0 (by omega)
  rw [Nat.add_zero] at h0
  unfold AtM at hat ⊢
  rw [h0, ho 1 (by omega), ho 2 (by omega), ho 3 (by omega), ho 4 (by omega), ho 5 (by omega)]
  exact hat

theorem zeroM (w : World) : (zeroValue 31).run Try.prog w = .ok (.agg #[.int .i64 0, .int .i64 0, .int .i64 0, .int .i64 0, .int .i64 0, .int .i64 0]) w := by kernel_rfl

/-- The zero cells of n maps. -/
def zsM (n : Nat) : List Value := (Builtin.zeroCells #[.int .i64 0, .int .i64 0, .int .i64 0, .int .i64 0, .int .i64 0, .int .i64 0] n).toList

theorem zsM_len (n : Nat) : (zsM n).length = n * 6 := by simp [zsM, Builtin.zeroCells]

theorem zsM_one (n : Nat) : ∀ v ∈ zsM n, v.oneCell' = true := fun v hv => by
  simp only [zsM, Builtin.zeroCells, Array.toList_map, List.mem_map] at hv
  obtain ⟨i, _, rfl⟩ := hv
  have h6 : i % 6 < 6 := Nat.mod_lt _ (by decide)
  have : ∀ k, k < 6 → ((#[.int .i64 0, .int .i64 0, .int .i64 0, .int .i64 0, .int .i64 0, .int .i64 0] : Array Value)[k]!).oneCell' = true := fun k hk => by
    rcases (by omega : k = 0 ∨ k = 1 ∨ k = 2 ∨ k = 3 ∨ k = 4 ∨ k = 5) with rfl | rfl | rfl | rfl | rfl | rfl <;> rfl
  exact this _ h6

theorem clearM {w : World} {B g cap : Nat} {M : List MapN} (h : PutRow w B g cap M) (i n c : Nat) (ty : TypeId) (hn : 0 < n) (hin : i + n = M.length) :
    (Builtin.clear_ #[29] ty #[.slice (some ⟨g, i * 6, none⟩) n c]).run Try.prog w = .ok (.tuple #[]) (w.setCells g (i * 6) (zsM n)) := by
  obtain ⟨cur, hc⟩ := h.ty
  have hcell : ∀ j, j < (zsM n).length → (w.cell? ⟨g, i * 6 + 0 + j, none⟩).isSome = true := fun j hj => by
    rw [zsM_len] at hj
    have hat := h.cells (i + j / 6) (by omega)
    have hm : j % 6 < 6 := Nat.mod_lt _ (by decide)
    have h2 := atM_cell hat hm (u := (mcl (M.getD (i + j / 6) z0))[j % 6]'(by rw [mcl_len]; exact hm)) (List.getElem?_eq_getElem _)
    have e : 0 + (i + j / 6) * 6 + j % 6 = i * 6 + 0 + j := by omega
    rw [e] at h2
    rw [h2]; rfl
  have hst := run_storeCells_cells (P := Try.prog) g (i * 6) (zsM n) 0 w hcell (fun j _ => Joins.unfrozen_of_block hc _) (zsM_one n)
  obtain ⟨m, rfl⟩ : ∃ m, n = m + 1 := ⟨n - 1, by omega⟩
  simp only [Nat.add_zero] at hst
  simp [Builtin.clear_, run_underlying Try.underlying29, Value.cells]
  change ((storeCells ⟨g, i * 6, none⟩ (zsM (m + 1))).run Try.prog w).andThen _ = _
  rw [hst]
  rfl

/-- The list while the maps are being struck out: what is kept of the first j, and the rest as it was. -/
theorem mid_at {K F : List Nat} {i j : Nat} (hF : F.length = i) (hij : i ≤ j) (_ : j < K.length) : (F ++ K.drop i).getD j 0 = K.getD j 0 := by
  rw [List.getD_eq_getElem?_getD, List.getElem?_append_right (by omega), List.getElem?_drop, List.getD_eq_getElem?_getD]
  congr 2
  omega

theorem mid_set {K F : List Nat} {i : Nat} (hF : F.length = i) (hi : i < K.length) (x : Nat) : (F ++ K.drop i).set i x = (F ++ [x]) ++ K.drop (i + 1) := by
  rw [List.set_append_right _ _ (by omega), hF, Nat.sub_self, List.append_assoc]
  congr 1
  rw [List.drop_eq_getElem_cons hi]
  rfl

theorem mE_set (p : Int) (M : List Nat) (i x : Nat) : (mE p M).set i (p, dcd x) = mE p (M.set i x) := by
  unfold mE
  rw [List.map_set]

theorem mE_take (p : Int) (M : List Nat) (i : Nat) : (mE p M).take i = mE p (M.take i) := by
  unfold mE
  rw [List.map_take]

theorem delN_any (cap : Nat) (gf : Nat) (bd lb : Array Value) (hgf : ∀ args w, (callFunc gf args).run Try.prog w = .ok (.enter gf args) w) (w : World) :
    Calls Try.prog 87 #[.slice none 0 cap, .func (.func gf) bd lb] w
      fun e w' => e = .returned (.slice none 0 cap) ∧ Below w.heap.size w w' := by
  have HQ := Lib.hid (idxG_any (p := 0) (K := []) (Q := fun _ => false) (bd := bd) (lb := lb) (by simp) hgf none cap w (Or.inl rfl) (fun x hx => by cases hx))
  simp only [List.length_nil] at HQ
  go_enter Try.func87, Try.ntmps87
  go_wp2_with fail
  refine HQ.out.mono ?_
  rintro e w2 ⟨i, rfl, hb2, hi⟩
  have HB2 := Lib.hid hb2
  have hi1 : i = -1 := by
    rcases hi with ⟨h, _⟩ | ⟨k, hk, _⟩
    · exact h
    · simp at hk
  subst hi1
  clear hb2 hi
  go_wp2_with fail
  go_ret
  exact ⟨rfl, HB2.out⟩

set_option maxRecDepth 100000 in
set_option maxHeartbeats 2000000 in
theorem delG_any {p : Int} {K : List Nat} (hn : K.length ≤ 300) {Q : Nat → Bool} {gf : Nat} {bd lb : Array Value} (hgf : ∀ args w, (callFunc gf args).run Try.prog w = .ok (.enter gf args) w)
    (g cap B : Nat) (w : World) (hp : PutRow w B g cap (mE p K))
    (hq : ∀ x ∈ K, ∀ z, Turn w z (fun k => k = g) → Calls Try.prog gf (bd.push (mv p (dcd x)) ++ lb) z fun e w' => e = .returned (.bool (Q x)) ∧ Below z.heap.size z w') :
    Calls Try.prog 87 #[.slice (some ⟨g, 0, none⟩) K.length cap, .func (.func gf) bd lb] w
      fun e w' => e = .returned (.slice (some ⟨g, 0, none⟩) (K.filter fun x => !Q x).length cap) ∧ PutRow w' B g cap (mE p (K.filter fun x => !Q x)) ∧ Turn w w' (fun k => k = g) := by
  have HIX := Lib.hid (idxG_any hn hgf (some ⟨g, 0, none⟩) cap w hp.inRow (fun x hx z hz => hq x hx z (Turn.of_below hz)))
  have HQ := Lib.hid hq
  have HP := Lib.hid hp
  have hcap : K.length ≤ cap := by have := hp.le; rw [mE_len] at this; exact this
  have hmx := hp.mx
  have hlo := hp.lo
  clear hq hp
  obtain ⟨Qn, hQn⟩ : ∃ Qn : Nat → Bool, Qn = fun x => !Q x := ⟨_, rfl⟩
  rw [← hQn]
  have HQN : Hid (∀ x, Qn x = !Q x) := Lib.hid fun x => by rw [hQn]
  clear hQn
  go_enter Try.func87, Try.ntmps87
  go_wp2_with fail
  refine HIX.out.mono ?_
  rintro e w1 ⟨i0, rfl, hb1, hi0⟩
  have HT1 : Hid (Turn w w1 fun k => k = g) := Lib.hid (Turn.of_below hb1)
  have HP1 := Lib.hid (HP.out.below hb1)
  clear hb1 HIX
  rcases hi0 with ⟨rfl, hall⟩ | ⟨k0, hk0, rfl, ht, hall⟩
  · have hfil : K.filter Qn = K := by
      rw [List.filter_eq_self]
      intro x hx
      obtain ⟨k, hk, rfl⟩ := List.getElem_of_mem hx
      have := hall k hk
      rw [List.getD_eq_getElem?_getD, List.getElem?_eq_getElem hk] at this
      rw [HQN.out]
      simpa using this
    have HFIL := Lib.hid hfil
    clear hfil hall
    go_wp2_with fail
    go_ret
    rw [HFIL.out]
    exact ⟨rfl, HP1.out, HT1.out⟩
  · have hne1 : ((k0 : Int) == -1) = false := beq_eq_false_iff_ne.2 (by omega)
    have hst : (K.take (k0 + 1)).filter Qn = K.take k0 := by
      rw [take_app K k0 hk0, List.filter_append]
      have e1 : (K.take k0).filter Qn = K.take k0 := by
        rw [List.filter_eq_self]
        intro x hx
        obtain ⟨k, hk, rfl⟩ := List.getElem_of_mem hx
        rw [List.length_take] at hk
        have := hall k (by omega)
        rw [List.getD_eq_getElem?_getD, List.getElem?_eq_getElem (by omega)] at this
        rw [HQN.out, List.getElem_take]
        simpa using this
      rw [e1]
      have e2 : [K.getD k0 0].filter Qn = [] := by
        rw [List.filter_cons_of_neg (by rw [HQN.out, ht]; decide)]
        rfl
      rw [e2, List.append_nil]
    have HST := Lib.hid hst
    have HS2 : Hid (K = (K.take (k0 + 1)).filter Qn ++ K.drop ((K.take (k0 + 1)).filter Qn).length) := Lib.hid (by
      rw [hst, List.length_take, Nat.min_eq_left (by omega), List.take_append_drop])
    have HS3 : Hid (((K.take (k0 + 1)).filter Qn).length = k0) := Lib.hid (by rw [hst, List.length_take, Nat.min_eq_left (by omega)])
    clear hst ht hall
    go_wp2_with fail
    go_loopw [5, 6, 7] (fun v5 v6 _ wr => ∃ (i j : Nat), i < j ∧ j ≤ K.length ∧ v5 = .int .i64 i ∧ v6 = .int .i64 j ∧ ((K.take j).filter Qn).length = i ∧ PutRow wr B g cap (mE p ((K.take j).filter Qn ++ K.drop i)) ∧ Turn w wr (fun k => k = g)) (fun _ v6 _ _ => K.length - (intOf v6).toNat)
    case atStart => exact ⟨k0, k0 + 1, by omega, by omega, rfl, by go_num, HS3.out, by have h := HS2.out; rw [HS3.out] at h; rw [← h]; exact HP1.out, HT1.out⟩
    case round =>
      obtain ⟨i, j, hij, hj, rfl, rfl, hFi, hput, ht⟩ := hrel
      have HPUT := Lib.hid hput
      have HT := Lib.hid ht
      have hgl := hput.hi
      have hwr := ht.size
      by_cases hjl : j < K.length
      · have hjl' : (j : Int) < (K.length : Int) := by omega
        have hil' : (i : Int) < (K.length : Int) := by omega
        have hat := hput.cells j (by rw [mE_len, List.length_append, List.length_drop, hFi]; omega)
        rw [mE_at _ _ _ (by rw [List.length_append, List.length_drop, hFi]; omega), mid_at hFi (by omega) hjl] at hat
        obtain ⟨cur, hcur⟩ := hput.ty
        have hfz := blk_free hcur
        have hqx := HQ.out _ (getD_mem hjl)
        have HTK : Hid ((K.take (j + 1)).filter Qn = (K.take j).filter Qn ++ (if Q (K.getD j 0) = true then [] else [K.getD j 0])) := Lib.hid (by
          rw [take_app K j hjl, List.filter_append]
          congr 1
          have h := HQN.out (K.getD j 0)
          cases hq : Q (K.getD j 0)
          · rw [hq] at h
            rw [List.filter_cons_of_pos (by rw [h]; rfl)]; rfl
          · rw [hq] at h
            rw [List.filter_cons_of_neg (by rw [h]; decide)]; rfl)
        have hms := fun x => mid_set hFi (show i < K.length by omega) x
        have HMS := Lib.hid hms
        have HLEN : Hid ((mE p ((K.take j).filter Qn ++ K.drop i)).length = K.length) := Lib.hid (by rw [mE_len, List.length_append, List.length_drop, hFi]; omega)
        have HFI := Lib.hid hFi
        obtain ⟨CB, hCB⟩ : ∃ CB, CB = Q (K.getD j 0) := ⟨_, rfl⟩
        rw [← hCB] at HTK hqx
        clear hCB hms hput ht hcur hFi
        unfold AtM at hat
        obtain ⟨x0, x1, x2, x3, x4, x5⟩ := hat
        simp only [Nat.zero_add] at x0 x1 x2 x3 x4 x5
        generalize hFF : (K.take j).filter Qn = F at *
        generalize hFF2 : (K.take (j + 1)).filter Qn = F2 at *
        have HFF2 := Lib.hid hFF2
        clear hFF hFF2
        generalize K.getD j 0 = x at *
        simp only [mv, mcells] at hqx
        have HQX := Lib.hid hqx
        clear hqx
        go_wp2_with fail
        refine (HQX.out _ (HT.out.trans (Turn.of_below ((Below.refl _ _).alloc (Nat.le_refl _) _)))).mono ?_
        rintro e w3 ⟨rfl, hb3⟩
        have hs3 := hb3.size
        simp only [World.size_alloc] at hs3
        have hba : Below wr.heap.size wr w3 := ((Below.refl _ _).alloc (Nat.le_refl _) _).trans (hb3.mono (by simp))
        have HT3 : Hid (Turn w w3 fun k => k = g) := Lib.hid (HT.out.trans (Turn.of_below hba))
        have hp3 := HPUT.out.below hba
        have HP3 := Lib.hid hp3
        have hbk := (hb3.block wr.heap.size (by simp)).trans (halloc_at _ _ _ rfl)
        obtain ⟨y0, y1, y2, y3, y4, y5⟩ := blk6 hbk
        obtain ⟨cur3, hc3⟩ := hp3.ty
        have hf3 := blk_free hc3
        have hd := hp3.cells i (by rw [HLEN.out]; omega)
        unfold AtM at hd
        obtain ⟨d0, d1, d2, d3, d4, d5⟩ := hd
        simp only [Nat.zero_add] at d0 d1 d2 d3 d4 d5
        have hil : i < K.length := by omega
        clear hb3 hba hbk hp3 hc3 x0 x1 x2 x3 x4 x5 hfz
        cases CB with
        | true =>
          go_wp2_with fail
          go_roundw
          case rel => exact ⟨i, j + 1, by omega, by omega, rfl, by go_num, by rw [HFF2.out, HTK.out, if_pos (by decide), List.append_nil]; exact HFI.out, by rw [HFF2.out, HTK.out, if_pos (by decide), List.append_nil]; exact HP3.out, HT3.out⟩
          case measure => simp [intOf]; omega
        | false =>
          go_wp2_with fail
          go_roundw
          case rel =>
            refine ⟨i + 1, j + 1, by omega, by omega, by go_num, by go_num, ?_, ?_, ?_⟩
            · rw [HFF2.out, HTK.out, if_neg (by decide), List.length_append, HFI.out]; rfl
            · rw [HFF2.out, HTK.out, if_neg (by decide), ← HMS.out, ← mE_set]
              exact HP3.out.set i (by rw [HLEN.out]; omega) (p, dcd x)
            · exact turn_set6 HT3.out rfl
          case measure => simp [intOf]; omega
      · obtain rfl : j = K.length := by omega
        rw [List.take_length] at hFi HPUT
        have hM : (mE p (K.filter Qn ++ K.drop i)).length = K.length := by rw [mE_len, List.length_append, List.length_drop, hFi]; omega
        have hcl := fun ty => clearM HPUT.out i (K.length - i) (cap - i) ty (by omega) (by rw [hM]; omega)
        have hcut := HPUT.out.cut i (by rw [hM]; omega) (zsM (K.length - i))
        rw [mE_take, List.take_left' hFi] at hcut
        have HCUT := Lib.hid hcut
        have HT2 := Lib.hid (turn_setCells (zsM (K.length - i)) (i * 6) HT.out rfl)
        have HFI := Lib.hid hFi
        have hic : (i : Int) ≤ (K.length : Int) := by omega
        have hkc : (K.length : Int) ≤ (cap : Int) := by omega
        have hic2 : (i : Int) ≤ (cap : Int) := by omega
        clear hcut hM hFi hput ht
        go_wp2_with fail
        go_ret
        exact ⟨by rw [HFI.out]; rfl, HCUT.out, HT2.out⟩

end Go.Proofs.Ytiogagaclhjdaaa

namespace Go.Proofs.Ytiogagaclhjdaaa
open Go Go.RowKit

set_option maxRecDepth 100000 in
set_option maxHeartbeats 1000000 in
theorem idxE_any {p : Int} {K : List Nat} (hn : K.length ≤ 300) {Q : Nat → Bool} (q : Int) (s : Nat → Int) (a : Option Addr) (cap : Nat) (w : World) (hr : InRowM w a (mE p K)) (hq : ∀ x ∈ K, ∀ w : World, (binOp .eql 31 (mv q s) (mv p (dcd x))).run Try.prog w = .ok (.bool (Q x)) w) :
    Calls Try.prog 85 #[.slice a K.length cap, mv q s] w
      fun e w' => ∃ i : Int, e = .returned (.int .i64 i) ∧ Below w.heap.size w w' ∧ IdxAt Q K i := by
  have HR := Lib.hid hr
  have HQ := Lib.hid hq
  clear hr hq
  simp only [mv, mcells] at HQ ⊢
  go_enter Try.func85, Try.ntmps85
  go_wp2_with fail
  go_loopw [5, 8] (fun _ i wr => ∃ k : Nat, k ≤ K.length ∧ i = .int .i64 k ∧ Below w.heap.size w wr ∧ w.heap.size < wr.heap.size ∧ wr.heap[w.heap.size]? = some (.cells (mcells q s) 31 (0, 0)) ∧ ∀ j, j < k → Q (K.getD j 0) = false) (fun _ i _ => K.length - (intOf i).toNat)
  case atStart => exact ⟨0, by omega, rfl, (Below.refl _ _).alloc (Nat.le_refl _) _, by simp, halloc_at _ _ _ rfl, fun j hj => by omega⟩
  case round =>
    obtain ⟨k, hk, rfl, hb, hsz, hbx, hal⟩ := hrel
    have HBR := Lib.hid hb
    have HAL := Lib.hid hal
    have HBX := Lib.hid hbx
    have hsr := hb.size
    by_cases hkl : k < K.length
    · have hkl' : (k : Int) < (K.length : Int) := by omega
      obtain ⟨b1, o1, rfl, hl1, hat1⟩ := (HR.out.below hb).at6 k (by rw [mE_len]; exact hkl)
      rw [mE_at _ _ _ hkl] at hat1
      obtain ⟨x0, x1, x2, x3, x4, x5⟩ := hat1
      simp only [] at x0 x1 x2 x3 x4 x5
      have HIT := Lib.hid fun (e : Q (K.getD k 0) = true) => (Or.inr ⟨k, hkl, rfl, e, hal⟩ : IdxAt Q K (k : Int))
      have hq := HQ.out _ (getD_mem hkl)
      have HST := Lib.hid fun (e : Q (K.getD k 0) = false) (j : Nat) (hj : j < k + 1) => (show Q (K.getD j 0) = false by
        by_cases h : j = k
        · rw [h]; exact e
        · exact HAL.out j (by omega))
      obtain ⟨CB, hCB⟩ : ∃ CB, CB = Q (K.getD k 0) := ⟨_, rfl⟩
      have HB := Lib.hid hCB
      rw [← hCB] at hq
      clear hCB hal hb
      generalize K.getD k 0 = x at *
      obtain ⟨r0, r1, r2, r3, r4, r5⟩ := belN_cells (B := wr.heap.size) hsz hbx
      have y0 : ∀ z, Below wr.heap.size wr z → z.cell? ⟨b1, _, none⟩ = _ := fun z hz => (hz.cell (p := ⟨b1, _, none⟩) hl1).trans x0
      have y1 : ∀ z, Below wr.heap.size wr z → z.cell? ⟨b1, _, none⟩ = _ := fun z hz => (hz.cell (p := ⟨b1, _, none⟩) hl1).trans x1
      have y2 : ∀ z, Below wr.heap.size wr z → z.cell? ⟨b1, _, none⟩ = _ := fun z hz => (hz.cell (p := ⟨b1, _, none⟩) hl1).trans x2
      have y3 : ∀ z, Below wr.heap.size wr z → z.cell? ⟨b1, _, none⟩ = _ := fun z hz => (hz.cell (p := ⟨b1, _, none⟩) hl1).trans x3
      have y4 : ∀ z, Below wr.heap.size wr z → z.cell? ⟨b1, _, none⟩ = _ := fun z hz => (hz.cell (p := ⟨b1, _, none⟩) hl1).trans x4
      have y5 : ∀ z, Below wr.heap.size wr z → z.cell? ⟨b1, _, none⟩ = _ := fun z hz => (hz.cell (p := ⟨b1, _, none⟩) hl1).trans x5
      clear x0 x1 x2 x3 x4 x5 hbx
      go_upto_region 4 with fail
      go_cut [16] from 11 to 16 (fun s16 wx => s16 = .bool CB ∧ Below wr.heap.size wr wx)
      case first =>
        go_region_held3 (fun w' => Below wr.heap.size wr w') (first | (with_reducible assumption) | ((repeat' (first | (with_reducible exact Below.refl _ _) | (with_reducible refine Below.alloc ?_ ?_ _) | (with_reducible refine Below.setCell ?_ ?_ _) | (with_reducible refine Below.drew ?_) | (with_reducible refine below_drewN ?_ _) | (with_reducible refine Below.trans ?_ (Below.mono (Hid.out (by assumption)) ?_)) | omega | (simp; done) | (simp; omega))); done)) (fail)
        all_goals (go_wp2_with fail)
        all_goals (go_meet)
        all_goals
          refine ⟨rfl, ?_⟩
          (repeat' (first | (with_reducible exact Below.refl _ _) | (with_reducible refine Below.alloc ?_ ?_ _) | (with_reducible refine Below.setCell ?_ ?_ _) | (with_reducible refine Below.drew ?_) | (with_reducible refine below_drewN ?_ _) | (with_reducible refine Below.trans ?_ (Below.mono (Hid.out (by assumption)) ?_)) | omega | (simp; done) | (simp; omega)))
      case rest =>
        obtain ⟨rfl, hbc⟩ := hcut
        have HBC := Lib.hid hbc
        have hzc := hbc.size
        clear hbc r0 r1 r2 r3 r4 r5 y0 y1 y2 y3 y4 y5 hq
        cases CB with
        | true =>
          go_wp2_with fail
          go_ret
          exact ⟨_, rfl, HBR.out.trans (HBC.out.mono hsr), HIT.out HB.out.symm⟩
        | false =>
          go_wp2_with fail
          go_roundw
          case rel => exact ⟨k + 1, by omega, by go_num, HBR.out.trans (HBC.out.mono hsr), by omega, bel_at HBC.out HBX.out, HST.out HB.out.symm⟩
          case measure => simp [intOf]; omega
    · obtain rfl : k = K.length := by omega
      clear hb hbx
      go_wp2_with fail
      go_ret
      exact ⟨_, rfl, HBR.out, Or.inl ⟨rfl, HAL.out⟩⟩

set_option maxRecDepth 100000 in
theorem hasE_any {p : Int} {K : List Nat} (hn : K.length ≤ 300) {Q : Nat → Bool} (q : Int) (s : Nat → Int) (a : Option Addr) (cap : Nat) (w : World) (hr : InRowM w a (mE p K)) (hq : ∀ x ∈ K, ∀ w : World, (binOp .eql 31 (mv q s) (mv p (dcd x))).run Try.prog w = .ok (.bool (Q x)) w) :
    Calls Try.prog 58 #[.slice a K.length cap, mv q s] w
      fun e w' => e = .returned (.bool (K.any Q)) ∧ Below w.heap.size w w' := by
  have hb0 : Below w.heap.size w (w.alloc (.cells (mcells q s) 31)) := (Below.refl _ _).alloc (Nat.le_refl _) _
  have HQ := Lib.hid (idxE_any hn q s a cap _ (hr.below hb0) hq)
  have HB0 := Lib.hid hb0
  clear hr hq hb0
  simp only [mv, mcells] at HQ HB0 ⊢
  go_enter Try.func58, Try.ntmps58
  go_wp2_with fail
  refine HQ.out.mono ?_
  rintro e w2 ⟨i, rfl, hb2, hi⟩
  have HB2 := Lib.hid hb2
  have HI := Lib.hid hi.any
  clear hb2 hi
  go_wp2_with fail
  go_ret
  exact ⟨ret_b (by rw [← HI.out]), HB0.out.trans (HB2.out.mono (by simp))⟩

/-- Whether a list holds a map. -/
theorem hasC_any {p : Int} {K : List Nat} {c : Nat} (hK : ∀ x ∈ K, vld p x) (hc : vld p c) (hn : K.length ≤ 300) (a : Option Addr) (cap : Nat) (w : World) (hr : InRowM w a (mE p K)) :
    Calls Try.prog 58 #[.slice a K.length cap, mv p (dcd c)] w
      fun e w' => e = .returned (.bool (decide (c ∈ K))) ∧ Below w.heap.size w w' := by
  have h := hasE_any hn (Q := fun x => decide (c = x)) p (dcd c) a cap w hr (fun x hx w => eqN_num hc (hK x hx) w)
  have e : (K.any fun x => decide (c = x)) = decide (c ∈ K) := by
    rw [Bool.eq_iff_iff, List.any_eq_true, decide_eq_true_iff]
    constructor
    · rintro ⟨x, hx, h⟩
      rw [of_decide_eq_true h]; exact hx
    · intro h
      exact ⟨c, h, by simp⟩
  rw [e] at h
  exact h

end Go.Proofs.Ytiogagaclhjdaaa

namespace Go.Proofs.Ytiogagaclhjdaaa
open Go Go.RowKit

/-- The elements below one. -/
def blwF (p : Int) (K : List Nat) (g : Nat) : List Nat := K.filter (blwC p K g)

theorem iblw1_any {p : Int} {R : List Nat} {x : Nat} (hR : ∀ y ∈ R, vld p y) (hx : vld p x) (hn : R.length ≤ 300) (a : Option Addr) (cR br : Nat) (w : World) (hbr : w.heap[br]? = some (.cells #[.slice a R.length cR] 29 (0, 0))) (hr : InRowM w a (mE p R)) :
    Calls Try.prog 88 #[mv p (dcd x), .pointer (some ⟨br, 0, none⟩)] w fun e w' => e = .returned (.bool (!decide (x ∈ R))) ∧ Below w.heap.size w w' := by
  have hb0 : Below w.heap.size w (w.alloc (.cells (mcells p (dcd x)) 31)) := (Below.refl _ _).alloc (Nat.le_refl _) _
  have HQ := Lib.hid (hasC_any hR hx hn a cR _ (hr.below hb0))
  have HB0 := Lib.hid hb0
  have x0 := Joins.cell_of_block hbr 0
  have hlt : br < w.heap.size := (Array.getElem?_eq_some_iff.1 hbr).1
  simp only [List.getElem?_toArray, List.getElem?_cons_zero] at x0
  clear hb0 hbr hr
  generalize decide (x ∈ R) = B at *
  simp only [mv, mcells] at HQ HB0 ⊢
  go_enter Try.func88, Try.ntmps88
  go_wp2_with fail
  refine HQ.out.mono ?_
  rintro e w2 ⟨rfl, hb2⟩
  have HB2 := Lib.hid hb2
  clear hb2
  go_wp2_with fail
  go_ret
  exact ⟨rfl, HB0.out.trans (HB2.out.mono (by simp))⟩

theorem idm_nonempty {p : Int} {K : List Nat} (h : Mon p K) : idC p ∈ idmC p K := by
  refine List.mem_filter.2 ⟨h.one, ?_⟩
  have hv := h.vl _ h.one
  have e : mulC p (idC p) (idC p) = idC p := mulC_idl h.p1 h.p5 hv
  unfold idemB
  unfold mulC at e
  have hok := mul_ok hv.2 hv.2
  have hc := dcd_cells (vld_ecd hok) hv
  rw [e] at hc
  have h1 : eqB p (dcd (idC p)) p (dcd (idC p)) = true := by rw [hc]; simp
  have h2 : eqB p (mul p (dcd (idC p)) (dcd (idC p))) p (dcd (idC p)) = eqB p (dcd (ecd (mul p (dcd (idC p)) (dcd (idC p))))) p (dcd (idC p)) := by
    unfold eqB eqA
    rw [dcd_ecd hok 0 (by omega), dcd_ecd hok 1 (by omega), dcd_ecd hok 2 (by omega), dcd_ecd hok 3 (by omega), dcd_ecd hok 4 (by omega)]
  rw [h2, e]
  exact h1

theorem thatD_any {p : Int} {K : List Nat} (hmon : Mon p K) (b cE : Nat) (aE : Option Addr) (mo : Option Nat) (w : World) (hm : w.heap[b]? = some (.cells #[.slice aE K.length cE, .map mo] 48 (0, 0))) (hr : InRowM w aE (mE p K)) :
    Calls Try.prog 52 #[.pointer (some ⟨b, 0, none⟩), .func (.func 86) #[] #[]] w
      fun e w' => ∃ a cap, e = .returned (.slice a (idmC p K).length cap) ∧ RdM w' w.heap.size a (mE p (idmC p K)) ∧ Below w.heap.size w w' :=
  thatG_any (Q := fun c => idemB p (dcd c)) hmon.le (enters_of Try.func86 (by kernel_rfl) rfl) b cE aE mo w hm hr fun x hx z _ => by
    simpa using iidem_any p (dcd x) (hmon.vl x hx).2 z

theorem thatZ_any (b : Nat) (mo : Option Nat) (fv : Value) (w : World)
    (hm : w.heap[b]? = some (.cells #[.slice none 0 0, .map mo] 48 (0, 0))) :
    Calls Try.prog 52 #[.pointer (some ⟨b, 0, none⟩), fv] w
      fun e w' => e = .returned (.slice none 0 0) ∧ w' = w := by
  have m0 := Joins.cell_of_block hm 0
  simp only [List.getElem?_toArray, List.getElem?_cons_zero] at m0
  clear hm
  go_enter Try.func52, Try.ntmps52
  go_wp2_with fail
  refine wp_loop_rounds 1 ?_
  rw [rounds_succ]
  go_wp2_with fail
  go_ret
  exact ⟨rfl, rfl⟩

/-- impl.ordered at no product. -/
theorem ordZ_any (A B : List MapN) (hlen : A.length * B.length = 0) (hAl : A.length ≤ 1000) (hBl : B.length ≤ 1000) (aA aB : Option Addr) (cA cB bl br : Nat) (w : World)
    (hbl : w.heap[bl]? = some (.cells #[.slice aA A.length cA] 29 (0, 0))) (hbr : w.heap[br]? = some (.cells #[.slice aB B.length cB] 29 (0, 0))) (hrA : InRowM w aA A) (hrB : InRowM w aB B) (hkA : ∀ b, b ∈ blkO aA → b < w.heap.size) (hkB : ∀ b, b ∈ blkO aB → b < w.heap.size) :
    Calls Try.prog 61 #[.func (.func 90) #[] #[.pointer (some ⟨bl, 0, none⟩), .pointer (some ⟨br, 0, none⟩)]] w
      fun e w' => e = .returned (.slice none 0 0) ∧ Below w.heap.size w w' := by
  refine (ordG_any (p := 0) (E := []) (U := []) A B (fun c hc => by cases hc) (by simp) (fun c hc => by cases hc) hlen hAl hBl (fun i j hi hj z => ?_) aA aB cA cB bl br w hbl hbr hrA hrB hkA hkB).mono fun e w' h => ?_
  · have : 0 < A.length * B.length := Nat.mul_pos (by omega) (by omega)
    omega
  · obtain ⟨hb, ⟨_, rfl⟩ | ⟨h0, _⟩⟩ := h
    · exact ⟨rfl, hb⟩
    · exact absurd rfl h0

/-- impl.ordered at products, some of them. -/
theorem ordQ_any {p : Int} {K A B : List Nat} (hmon : Mon p K) (hA : ∀ a ∈ A, a ∈ K) (hB : ∀ b ∈ B, b ∈ K) (hAl : A.length ≤ 300) (hBl : B.length ≤ 300) (h0 : ordC p A B ≠ []) (aA aB : Option Addr) (cA cB bl br : Nat) (w : World)
    (hbl : w.heap[bl]? = some (.cells #[.slice aA A.length cA] 29 (0, 0))) (hbr : w.heap[br]? = some (.cells #[.slice aB B.length cB] 29 (0, 0))) (hrA : InRowM w aA (mE p A)) (hrB : InRowM w aB (mE p B)) (hkA : ∀ b, b ∈ blkO aA → b < w.heap.size) (hkB : ∀ b, b ∈ blkO aB → b < w.heap.size) :
    Calls Try.prog 61 #[.func (.func 90) #[] #[.pointer (some ⟨bl, 0, none⟩), .pointer (some ⟨br, 0, none⟩)]] w
      fun e w' => ∃ g cap, e = .returned (.slice (some ⟨g, 0, none⟩) (ordC p A B).length cap) ∧ PutRow w' w.heap.size g cap (mE p (ordC p A B)) ∧ Below w.heap.size w w' := by
  have hpr := hmon.prods hA hB
  refine (ordG_any (p := p) (E := prodsC p A B) (U := K) (mE p A) (mE p B) (fun c hc => hmon.vl c (hpr c hc)) hmon.le hpr (by rw [mE_len, mE_len, prods_len]) (by rw [mE_len]; omega) (by rw [mE_len]; omega) (fun i j hi hj z => ?_) aA aB cA cB bl br w (by rw [mE_len]; exact hbl) (by rw [mE_len]; exact hbr) hrA hrB hkA hkB).mono fun e w' h => ?_
  · rw [mE_len] at hi hj
    rw [mE_at p A i hi, mE_at p B j hj, mE_len, prods_at p B j hj A i hi]
    exact prodN_any (hmon.vl _ (hA _ (getD_mem hi))) (hmon.vl _ (hB _ (getD_mem hj))) z
  · obtain ⟨hb, ⟨e0, _⟩ | ⟨_, g, cap, rfl, hp⟩⟩ := h
    · exact absurd e0 h0
    · exact ⟨g, cap, rfl, hp, hb⟩

theorem rd_blk {w : World} {B : Nat} {a : Option Addr} {L : List MapN} (h : RdM w B a L) (h0 : L ≠ []) : ∀ b, b ∈ blkO a → B ≤ b ∧ b < w.heap.size := fun b hb => by
  rcases h.2 with h1 | ⟨g, ha, hB, hg, _⟩
  · exact absurd h1 h0
  · rw [ha] at hb
    have : b = g := by simpa [blkO] using hb
    omega

set_option maxRecDepth 100000 in
set_option maxHeartbeats 2000000 in
theorem iblwC_any {p : Int} {K : List Nat} {s : Nat → Int} (hmon : Mon p K) (hs : isB p s = true) (hm : ecd s ∈ K) (b gE cE : Nat) (mo : Option Nat) (w : World) (hbm : w.heap[b]? = some (.cells #[.slice (some ⟨gE, 0, none⟩) K.length cE, .map mo] 48 (0, 0))) (hrow : InRowM w (some ⟨gE, 0, none⟩) (mE p K)) :
    Calls Try.prog 59 #[.pointer (some ⟨b, 0, none⟩), mv p s] w
      fun e w' => ∃ a cap, e = .returned (.slice a (blwF p K (ecd s)).length cap) ∧ RdM w' w.heap.size a (mE p (blwF p K (ecd s))) ∧ Below w.heap.size w w' := by
  have hb0 : Below w.heap.size w (w.alloc (.cells (mcells p s) 31)) := (Below.refl _ _).alloc (Nat.le_refl _) _
  have HT := Lib.hid (thatD_any hmon b cE (some ⟨gE, 0, none⟩) mo _ (bel_at hb0 hbm) (hrow.below hb0))
  have HF0 : Hid ((w.alloc (.cells (mcells p s) 31)).heap[w.heap.size]? = some (.cells (mcells p s) 31 (0, 0))) := Lib.hid (halloc_at _ _ _ rfl)
  have HB0 := Lib.hid hb0
  have hIK : ∀ x ∈ idmC p K, x ∈ K := fun x hx => (List.mem_filter.1 hx).1
  have hIl : (idmC p K).length ≤ 300 := Nat.le_trans (List.length_filter_le _ _) hmon.le
  have hI0 : idmC p K ≠ [] := fun e => by have := idm_nonempty hmon; rw [e] at this; cases this
  have h1K : ∀ x ∈ [ecd s], x ∈ K := fun x hx => by rw [List.mem_singleton.1 hx]; exact hm
  have hl0 : ordC p (idmC p K) [ecd s] ≠ [] := fun e => by
    have : mulC p (idC p) (ecd s) ∈ ordC p (idmC p K) [ecd s] := ord_mem.2 ⟨_, idm_nonempty hmon, _, List.mem_singleton.2 rfl, rfl⟩
    rw [e] at this; cases this
  have hr0 : ordC p [ecd s] (idmC p K) ≠ [] := fun e => by
    have : mulC p (ecd s) (idC p) ∈ ordC p [ecd s] (idmC p K) := ord_mem.2 ⟨_, List.mem_singleton.2 rfl, _, idm_nonempty hmon, rfl⟩
    rw [e] at this; cases this
  have hLK := hmon.ord hIK h1K
  have hRK := hmon.ord h1K hIK
  have HL := Lib.hid fun (a : Option Addr) (ca fb bl br : Nat) (z : World) (f1 : z.heap[fb]? = some (.cells (mcells p s) 31 (0, 0))) f2 f3 hra hka => ordQ_any hmon hIK h1K hIl (by simp) hl0 a (some ⟨fb, 0, none⟩) ca 1 bl br z f2 f3 hra (Or.inr ⟨fb, 0, rfl, (Array.getElem?_eq_some_iff.1 f1).1, at_one (by rw [mcells_ecd hs]; exact f1)⟩) hka (one_blk (Array.getElem?_eq_some_iff.1 f1).1)
  have HR := Lib.hid fun (a : Option Addr) (ca fb bl br : Nat) (z : World) (f1 : z.heap[fb]? = some (.cells (mcells p s) 31 (0, 0))) f2 f3 hra hka => ordQ_any hmon h1K hIK (by simp) hIl hr0 (some ⟨fb, 0, none⟩) a 1 ca bl br z f2 f3 (Or.inr ⟨fb, 0, rfl, (Array.getElem?_eq_some_iff.1 f1).1, at_one (by rw [mcells_ecd hs]; exact f1)⟩) hra (one_blk (Array.getElem?_eq_some_iff.1 f1).1) hka
  have HEQ : Hid ((ordC p (idmC p K) [ecd s]).filter (fun x => decide (x ∈ ordC p [ecd s] (idmC p K))) = blwF p K (ecd s)) := Lib.hid (blw_eq hmon hm)
  have HLV : Hid (∀ x ∈ ordC p (idmC p K) [ecd s], vld p x) := Lib.hid fun x hx => hmon.vl x (hLK x hx)
  have HRV : Hid (∀ x ∈ ordC p [ecd s] (idmC p K), vld p x) := Lib.hid fun x hx => hmon.vl x (hRK x hx)
  have hLl : (ordC p (idmC p K) [ecd s]).length ≤ 300 := hmon.len (srtE_srt _) hLK
  have hRl : (ordC p [ecd s] (idmC p K)).length ≤ 300 := hmon.len (srtE_srt _) hRK
  have hEI : mE p (idmC p K) ≠ [] := fun e => hI0 (List.length_eq_zero_iff.1 (by rw [← mE_len p, e]; rfl))
  clear hb0 hIK hI0 h1K hl0 hr0 hLK hRK hrow hbm hs hm hmon
  generalize blwF p K (ecd s) = BF at *
  generalize ordC p (idmC p K) [ecd s] = LF at *
  generalize ordC p [ecd s] (idmC p K) = RT at *
  generalize idmC p K = EI at *
  simp only [List.length_singleton] at HL HR
  simp only [mv, mcells] at HT HF0 HB0 HL HR ⊢
  go_enter Try.func59, Try.ntmps59
  go_wp2_with fail
  refine HT.out.mono ?_
  rintro e w2 ⟨aI, cI, rfl, hrI, hb2⟩
  have HRI := Lib.hid hrI
  have HB2 := Lib.hid (HB0.out.trans (hb2.mono (by simp)))
  have hf2 := (hb2.block w.heap.size (by simp)).trans HF0.out
  have HF2 := Lib.hid hf2
  have hs2 : w.heap.size < w2.heap.size := (Array.getElem?_eq_some_iff.1 hf2).1
  obtain ⟨x0, x1, x2, x3, x4, x5⟩ := blk6 hf2
  clear hb2 hrI hf2
  go_wp2_with (go_at_call 62; (with_reducible refine (products_any _ _ _ _ _ _ _).mono ?_); rintro e w3 ⟨rfl, rfl⟩)
  refine (HL.out aI cI w2.heap.size (w2.heap.size + 1) (w2.heap.size + 1 + 1) _ ?_ ?_ ?_ ?_ ?_).mono ?_
  · (repeat' (first | omega | (rw [hdrew]) | (with_reducible assumption) | (with_reducible exact Hid.out (by assumption)) | (with_reducible rfl) | ((with_reducible refine halloc_at _ _ _ ?_) <;> (first | (with_reducible rfl) | omega | (simp; done))) | (with_reducible refine chain6 ?_) | (with_reducible refine Eq.trans (hset_ne _ _ _ _ ?_) ?_) | (with_reducible refine Eq.trans (halloc_lt _ _ _ ?_) ?_) | (with_reducible refine Eq.trans (Below.block (Hid.out (by assumption)) _ ?_) ?_) | (simp; done) | (simp; omega)))
  · (repeat' (first | omega | (rw [hdrew]) | (with_reducible assumption) | (with_reducible exact Hid.out (by assumption)) | (with_reducible rfl) | ((with_reducible refine halloc_at _ _ _ ?_) <;> (first | (with_reducible rfl) | omega | (simp; done))) | (with_reducible refine chain6 ?_) | (with_reducible refine Eq.trans (hset_ne _ _ _ _ ?_) ?_) | (with_reducible refine Eq.trans (halloc_lt _ _ _ ?_) ?_) | (with_reducible refine Eq.trans (Below.block (Hid.out (by assumption)) _ ?_) ?_) | (simp; done) | (simp; omega)))
  · (repeat' (first | omega | (rw [hdrew]) | (with_reducible assumption) | (with_reducible exact Hid.out (by assumption)) | (with_reducible rfl) | ((with_reducible refine halloc_at _ _ _ ?_) <;> (first | (with_reducible rfl) | omega | (simp; done))) | (with_reducible refine chain6 ?_) | (with_reducible refine Eq.trans (hset_ne _ _ _ _ ?_) ?_) | (with_reducible refine Eq.trans (halloc_lt _ _ _ ?_) ?_) | (with_reducible refine Eq.trans (Below.block (Hid.out (by assumption)) _ ?_) ?_) | (simp; done) | (simp; omega)))
  · exact HRI.out.inRow.below (by (repeat' (first | (with_reducible exact Below.refl _ _) | (with_reducible refine Below.alloc ?_ ?_ _) | (with_reducible refine Below.setCell ?_ ?_ _) | (with_reducible refine Below.drew ?_) | (with_reducible refine below_drewN ?_ _) | (with_reducible refine Below.trans ?_ (Below.mono (Hid.out (by assumption)) ?_)) | omega | (simp; done) | (simp; omega))))
  · exact fun x hx => Nat.lt_of_lt_of_le (rd_blk HRI.out hEI x hx).2 (by simp; omega)
  rintro e w3 ⟨gL, cL, rfl, hpL, hb3⟩
  have HPL := Lib.hid hpL
  have hz3 := hb3.size
  simp only [World.size_alloc] at hz3
  have hgL := hpL.hi
  have hgL2 := hpL.lo
  simp only [World.size_alloc] at hgL2
  have hb23 : Below w2.heap.size w2 w3 := Below.trans (by (repeat' (first | (with_reducible exact Below.refl _ _) | (with_reducible refine Below.alloc ?_ ?_ _) | (with_reducible refine Below.setCell ?_ ?_ _) | (with_reducible refine Below.drew ?_) | (with_reducible refine below_drewN ?_ _) | (with_reducible refine Below.trans ?_ (Below.mono (Hid.out (by assumption)) ?_)) | omega | (simp; done) | (simp; omega)))) (hb3.mono (by simp; omega))
  have HB3 := Lib.hid hb23
  have HRI3 := Lib.hid (HRI.out.below hb23)
  have hf3 := bel_at hb23 HF2.out
  have HF3 := Lib.hid hf3
  have hs3 : w.heap.size < w3.heap.size := (Array.getElem?_eq_some_iff.1 hf3).1
  obtain ⟨y0, y1, y2, y3, y4, y5⟩ := blk6 hf3
  clear hb3 hb23 hpL hf3 x0 x1 x2 x3 x4 x5
  go_wp2_with (go_at_call 62; (with_reducible refine (products_any _ _ _ _ _ _ _).mono ?_); rintro e w4 ⟨rfl, rfl⟩)
  refine (HR.out aI cI w3.heap.size (w3.heap.size + 1) (w3.heap.size + 1 + 1) _ ?_ ?_ ?_ ?_ ?_).mono ?_
  · (repeat' (first | omega | (rw [hdrew]) | (with_reducible assumption) | (with_reducible exact Hid.out (by assumption)) | (with_reducible rfl) | ((with_reducible refine halloc_at _ _ _ ?_) <;> (first | (with_reducible rfl) | omega | (simp; done))) | (with_reducible refine chain6 ?_) | (with_reducible refine Eq.trans (hset_ne _ _ _ _ ?_) ?_) | (with_reducible refine Eq.trans (halloc_lt _ _ _ ?_) ?_) | (with_reducible refine Eq.trans (Below.block (Hid.out (by assumption)) _ ?_) ?_) | (simp; done) | (simp; omega)))
  · (repeat' (first | omega | (rw [hdrew]) | (with_reducible assumption) | (with_reducible exact Hid.out (by assumption)) | (with_reducible rfl) | ((with_reducible refine halloc_at _ _ _ ?_) <;> (first | (with_reducible rfl) | omega | (simp; done))) | (with_reducible refine chain6 ?_) | (with_reducible refine Eq.trans (hset_ne _ _ _ _ ?_) ?_) | (with_reducible refine Eq.trans (halloc_lt _ _ _ ?_) ?_) | (with_reducible refine Eq.trans (Below.block (Hid.out (by assumption)) _ ?_) ?_) | (simp; done) | (simp; omega)))
  · (repeat' (first | omega | (rw [hdrew]) | (with_reducible assumption) | (with_reducible exact Hid.out (by assumption)) | (with_reducible rfl) | ((with_reducible refine halloc_at _ _ _ ?_) <;> (first | (with_reducible rfl) | omega | (simp; done))) | (with_reducible refine chain6 ?_) | (with_reducible refine Eq.trans (hset_ne _ _ _ _ ?_) ?_) | (with_reducible refine Eq.trans (halloc_lt _ _ _ ?_) ?_) | (with_reducible refine Eq.trans (Below.block (Hid.out (by assumption)) _ ?_) ?_) | (simp; done) | (simp; omega)))
  · exact HRI3.out.inRow.below (by (repeat' (first | (with_reducible exact Below.refl _ _) | (with_reducible refine Below.alloc ?_ ?_ _) | (with_reducible refine Below.setCell ?_ ?_ _) | (with_reducible refine Below.drew ?_) | (with_reducible refine below_drewN ?_ _) | (with_reducible refine Below.trans ?_ (Below.mono (Hid.out (by assumption)) ?_)) | omega | (simp; done) | (simp; omega))))
  · exact fun x hx => Nat.lt_of_lt_of_le (rd_blk HRI3.out hEI x hx).2 (by simp; omega)
  rintro e w4 ⟨gR, cR, rfl, hpR, hb4⟩
  have hz4 := hb4.size
  simp only [World.size_alloc] at hz4
  have hgR2 := hpR.lo
  have hgR := hpR.hi
  simp only [World.size_alloc] at hgR2
  have hb34 : Below w3.heap.size w3 w4 := Below.trans (by (repeat' (first | (with_reducible exact Below.refl _ _) | (with_reducible refine Below.alloc ?_ ?_ _) | (with_reducible refine Below.setCell ?_ ?_ _) | (with_reducible refine Below.drew ?_) | (with_reducible refine below_drewN ?_ _) | (with_reducible refine Below.trans ?_ (Below.mono (Hid.out (by assumption)) ?_)) | omega | (simp; done) | (simp; omega)))) (hb4.mono (by simp; omega))
  have HB4 := Lib.hid hb34
  have HP4 := Lib.hid (HPL.out.below hb34)
  have HPR := Lib.hid hpR
  clear hb4 hb34 hpR y0 y1 y2 y3 y4 y5
  have eg : ∀ args w, (callFunc 88 args).run Try.prog w = .ok (.enter 88 args) w := enters_of Try.func88 (by kernel_rfl) rfl
  obtain ⟨w5, hw5⟩ : ∃ w5, w5 = w4.alloc (.cells #[.slice (some ⟨gR, 0, none⟩) RT.length cR] 29) := ⟨_, rfl⟩
  have hb45 : Below w4.heap.size w4 w5 := by rw [hw5]; exact (Below.refl _ _).alloc (Nat.le_refl _) _
  have hbr5 : w5.heap[w4.heap.size]? = some (.cells #[.slice (some ⟨gR, 0, none⟩) RT.length cR] 29 (0, 0)) := by rw [hw5]; exact halloc_at _ _ _ rfl
  have hD := delG_any hLl (Q := fun x => !decide (x ∈ RT)) eg gL cL _ w5 (HP4.out.below hb45) (bd := #[]) (lb := #[.pointer (some ⟨w4.heap.size, 0, none⟩)]) (fun x hx z hz => by
    have h := iblw1_any HRV.out (HLV.out x hx) hRl (some ⟨gR, 0, none⟩) cR w4.heap.size z (hz.at_ hbr5 (by omega)) ((HPR.out.below hb45).block (hz.block gR (by have := hb45.size; omega) (by omega))).inRow
    simpa using h)
  simp only [Bool.not_not] at hD
  have HD := Lib.hid hD
  have HB5 : Hid (Below w.heap.size w w5) := Lib.hid (HB2.out.trans ((HB3.out.trans ((HB4.out.trans (hb45.mono (by omega))).mono (by omega))).mono (by omega)))
  clear hD hb45 hbr5 eg
  go_wp2_with fail
  rw [← hw5]
  clear hw5
  refine HD.out.mono ?_
  rintro e w6 ⟨rfl, hp6, ht6⟩
  have hfeq := HEQ.out
  have HP6 := Lib.hid hp6
  have HT6 := Lib.hid ht6
  clear hp6 ht6
  go_wp2_with fail
  go_ret
  have hp6 := HP6.out
  rw [hfeq] at hp6
  have hBl : BF.length ≤ 300 := by rw [← hfeq]; exact Nat.le_trans (List.length_filter_le _ _) hLl
  exact ⟨_, cL, rfl, (hp6.rd (by rw [mE_len]; omega)).mono (by simp; omega), HB5.out.grown (row := some gL) ⟨HT6.out.os, HT6.out.tape, HT6.out.output, HT6.out.size, fun k hk hn => HT6.out.block k hk (fun e => hn (by rw [e]))⟩ HB5.out.size (fun r e => by cases e; omega)⟩

set_option maxRecDepth 100000 in
set_option maxHeartbeats 1000000 in
theorem iblwN_any (q : Int) (s : Nat → Int) (b : Nat) (mo : Option Nat) (w : World) (hbm : w.heap[b]? = some (.cells #[.slice none 0 0, .map mo] 48 (0, 0))) :
    Calls Try.prog 59 #[.pointer (some ⟨b, 0, none⟩), mv q s] w
      fun e w' => ∃ a cap, e = .returned (.slice a 0 cap) ∧ RdM w' w.heap.size a [] ∧ Below w.heap.size w w' := by
  have hb0 : Below w.heap.size w (w.alloc (.cells (mcells q s) 31)) := (Below.refl _ _).alloc (Nat.le_refl _) _
  have HT := Lib.hid fun fv => thatZ_any b mo fv _ (bel_at hb0 hbm)
  have HF0 : Hid ((w.alloc (.cells (mcells q s) 31)).heap[w.heap.size]? = some (.cells (mcells q s) 31 (0, 0))) := Lib.hid (halloc_at _ _ _ rfl)
  have HL := Lib.hid fun (fb bl br : Nat) (z : World) (f1 : z.heap[fb]? = some (.cells (mcells q s) 31 (0, 0))) f2 f3 => ordZ_any [] [(q, s)] (by simp) (by simp) (by simp) none (some ⟨fb, 0, none⟩) 0 1 bl br z f2 f3 (Or.inl rfl) (Or.inr ⟨fb, 0, rfl, (Array.getElem?_eq_some_iff.1 f1).1, at_one f1⟩) (fun b hb => by cases hb) (one_blk (Array.getElem?_eq_some_iff.1 f1).1)
  have HR := Lib.hid fun (fb bl br : Nat) (z : World) (f1 : z.heap[fb]? = some (.cells (mcells q s) 31 (0, 0))) f2 f3 => ordZ_any [(q, s)] [] (by simp) (by simp) (by simp) (some ⟨fb, 0, none⟩) none 1 0 bl br z f2 f3 (Or.inr ⟨fb, 0, rfl, (Array.getElem?_eq_some_iff.1 f1).1, at_one f1⟩) (Or.inl rfl) (one_blk (Array.getElem?_eq_some_iff.1 f1).1) (fun b hb => by cases hb)
  have HB0 := Lib.hid hb0
  clear hb0 hbm
  simp only [List.length_singleton, List.length_nil] at HL HR
  simp only [mv, mcells] at HT HF0 HB0 HL HR ⊢
  go_enter Try.func59, Try.ntmps59
  go_wp2_with fail
  refine (HT.out _).mono ?_
  rintro e w2 ⟨rfl, rfl⟩
  go_wp2_with (go_at_call 62; (with_reducible refine (products_any _ _ _ _ _ _ _).mono ?_); rintro e w3 ⟨rfl, rfl⟩)
  refine (HL.out (w.heap.size + 1) (w.heap.size + 1 + 1) (w.heap.size + 1 + 1 + 1) _ ?_ ?_ ?_).mono ?_
  · (repeat' (first | omega | (rw [hdrew]) | (with_reducible assumption) | (with_reducible exact Hid.out (by assumption)) | (with_reducible rfl) | ((with_reducible refine halloc_at _ _ _ ?_) <;> (first | (with_reducible rfl) | omega | (simp; done))) | (with_reducible refine chain6 ?_) | (with_reducible refine Eq.trans (hset_ne _ _ _ _ ?_) ?_) | (with_reducible refine Eq.trans (halloc_lt _ _ _ ?_) ?_) | (with_reducible refine Eq.trans (Below.block (Hid.out (by assumption)) _ ?_) ?_) | (simp; done) | (simp; omega)))
  · (repeat' (first | omega | (rw [hdrew]) | (with_reducible assumption) | (with_reducible exact Hid.out (by assumption)) | (with_reducible rfl) | ((with_reducible refine halloc_at _ _ _ ?_) <;> (first | (with_reducible rfl) | omega | (simp; done))) | (with_reducible refine chain6 ?_) | (with_reducible refine Eq.trans (hset_ne _ _ _ _ ?_) ?_) | (with_reducible refine Eq.trans (halloc_lt _ _ _ ?_) ?_) | (with_reducible refine Eq.trans (Below.block (Hid.out (by assumption)) _ ?_) ?_) | (simp; done) | (simp; omega)))
  · (repeat' (first | omega | (rw [hdrew]) | (with_reducible assumption) | (with_reducible exact Hid.out (by assumption)) | (with_reducible rfl) | ((with_reducible refine halloc_at _ _ _ ?_) <;> (first | (with_reducible rfl) | omega | (simp; done))) | (with_reducible refine chain6 ?_) | (with_reducible refine Eq.trans (hset_ne _ _ _ _ ?_) ?_) | (with_reducible refine Eq.trans (halloc_lt _ _ _ ?_) ?_) | (with_reducible refine Eq.trans (Below.block (Hid.out (by assumption)) _ ?_) ?_) | (simp; done) | (simp; omega)))
  rintro e w3 ⟨rfl, hb3⟩
  have hf3 := (hb3.block w.heap.size (by simp; omega)).trans (show _ = some (.cells (mcells q s) 31 (0, 0)) by (repeat' (first | omega | (rw [hdrew]) | (with_reducible assumption) | (with_reducible exact Hid.out (by assumption)) | (with_reducible rfl) | ((with_reducible refine halloc_at _ _ _ ?_) <;> (first | (with_reducible rfl) | omega | (simp; done))) | (with_reducible refine chain6 ?_) | (with_reducible refine Eq.trans (hset_ne _ _ _ _ ?_) ?_) | (with_reducible refine Eq.trans (halloc_lt _ _ _ ?_) ?_) | (with_reducible refine Eq.trans (Below.block (Hid.out (by assumption)) _ ?_) ?_) | (simp; done) | (simp; omega))))
  have HB3 : Hid (Below w.heap.size w w3) := Lib.hid (Below.trans (by (repeat' (first | (with_reducible exact Below.refl _ _) | (with_reducible refine Below.alloc ?_ ?_ _) | (with_reducible refine Below.setCell ?_ ?_ _) | (with_reducible refine Below.drew ?_) | (with_reducible refine below_drewN ?_ _) | (with_reducible refine Below.trans ?_ (Below.mono (Hid.out (by assumption)) ?_)) | omega | (simp; done) | (simp; omega)))) (hb3.mono (by simp; omega)))
  have hs3 : w.heap.size < w3.heap.size := (Array.getElem?_eq_some_iff.1 hf3).1
  have HF3 := Lib.hid hf3
  obtain ⟨y0, y1, y2, y3, y4, y5⟩ := blk6 hf3
  clear hb3 hf3
  go_wp2_with (go_at_call 62; (with_reducible refine (products_any _ _ _ _ _ _ _).mono ?_); rintro e w4 ⟨rfl, rfl⟩)
  refine (HR.out w3.heap.size (w3.heap.size + 1) (w3.heap.size + 1 + 1) _ ?_ ?_ ?_).mono ?_
  · (repeat' (first | omega | (rw [hdrew]) | (with_reducible assumption) | (with_reducible exact Hid.out (by assumption)) | (with_reducible rfl) | ((with_reducible refine halloc_at _ _ _ ?_) <;> (first | (with_reducible rfl) | omega | (simp; done))) | (with_reducible refine chain6 ?_) | (with_reducible refine Eq.trans (hset_ne _ _ _ _ ?_) ?_) | (with_reducible refine Eq.trans (halloc_lt _ _ _ ?_) ?_) | (with_reducible refine Eq.trans (Below.block (Hid.out (by assumption)) _ ?_) ?_) | (simp; done) | (simp; omega)))
  · (repeat' (first | omega | (rw [hdrew]) | (with_reducible assumption) | (with_reducible exact Hid.out (by assumption)) | (with_reducible rfl) | ((with_reducible refine halloc_at _ _ _ ?_) <;> (first | (with_reducible rfl) | omega | (simp; done))) | (with_reducible refine chain6 ?_) | (with_reducible refine Eq.trans (hset_ne _ _ _ _ ?_) ?_) | (with_reducible refine Eq.trans (halloc_lt _ _ _ ?_) ?_) | (with_reducible refine Eq.trans (Below.block (Hid.out (by assumption)) _ ?_) ?_) | (simp; done) | (simp; omega)))
  · (repeat' (first | omega | (rw [hdrew]) | (with_reducible assumption) | (with_reducible exact Hid.out (by assumption)) | (with_reducible rfl) | ((with_reducible refine halloc_at _ _ _ ?_) <;> (first | (with_reducible rfl) | omega | (simp; done))) | (with_reducible refine chain6 ?_) | (with_reducible refine Eq.trans (hset_ne _ _ _ _ ?_) ?_) | (with_reducible refine Eq.trans (halloc_lt _ _ _ ?_) ?_) | (with_reducible refine Eq.trans (Below.block (Hid.out (by assumption)) _ ?_) ?_) | (simp; done) | (simp; omega)))
  rintro e w4 ⟨rfl, hb4⟩
  have HB4 : Hid (Below w.heap.size w w4) := Lib.hid (Below.trans (by (repeat' (first | (with_reducible exact Below.refl _ _) | (with_reducible refine Below.alloc ?_ ?_ _) | (with_reducible refine Below.setCell ?_ ?_ _) | (with_reducible refine Below.drew ?_) | (with_reducible refine below_drewN ?_ _) | (with_reducible refine Below.trans ?_ (Below.mono (Hid.out (by assumption)) ?_)) | omega | (simp; done) | (simp; omega)))) (hb4.mono (by simp; omega)))
  have eg : ∀ args w, (callFunc 88 args).run Try.prog w = .ok (.enter 88 args) w := enters_of Try.func88 (by kernel_rfl) rfl
  have HD := Lib.hid fun z => delN_any 0 _ #[] #[.pointer (some ⟨w4.heap.size, 0, none⟩)] eg z
  clear hb4 eg y0 y1 y2 y3 y4 y5
  go_wp2_with fail
  refine (HD.out _).mono ?_
  rintro e w6 ⟨rfl, hb6⟩
  have HB6 := Lib.hid hb6
  have hs4 := HB4.out.size
  clear hb6
  go_wp2_with fail
  go_ret
  refine ⟨none, 0, rfl, ⟨by simp, Or.inl rfl⟩, ?_⟩
  (repeat' (first | (with_reducible exact Below.refl _ _) | (with_reducible refine Below.alloc ?_ ?_ _) | (with_reducible refine Below.setCell ?_ ?_ _) | (with_reducible refine Below.drew ?_) | (with_reducible refine below_drewN ?_ _) | (with_reducible refine Below.trans ?_ (Below.mono (Hid.out (by assumption)) ?_)) | omega | (simp; done) | (simp; omega)))

end Go.Proofs.Ytiogagaclhjdaaa
