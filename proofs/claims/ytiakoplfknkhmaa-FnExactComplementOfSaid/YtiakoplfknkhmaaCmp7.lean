/- Complements of acceptors: sets of points that are not in a list; slices.Clone at maps; the contracts of ComplementOf on both sides. -/
import Derived.Test.YtiakoplfknkhmaaAcs
import Derived.Test.YtiakoplfknkhmaaAcm
import Derived.Test.YtiakoplfknkhmaaBits
import Derived.Test.YtiakoplfknkhmaaPoints
import Derived.Test.YtiakoplfknkhmaaSrp
import Derived.Deep.RegionHeld3
import Derived.BigQuiet
namespace Go.Proofs.Ytiakoplfknkhmaa
open Go Go.RowKit

def alB (n : Nat) : Nat → Bool := fun i => decide (i < n)

set_option maxHeartbeats 1000000 in
theorem allPtsC_any (n : Nat) (h5 : n ≤ 5) (w : World) :
    Calls Try.prog 58 #[.int .i64 n] w fun e w' => e = .returned (.agg (cells5 (alB n))) ∧ Below w.heap.size w w' := by
  rcases (by omega : n = 0 ∨ n = 1 ∨ n = 2 ∨ n = 3 ∨ n = 4 ∨ n = 5) with rfl | rfl | rfl | rfl | rfl | rfl
  all_goals
    go_enter Try.func58, Try.ntmps58
    go_wp2
    refine wp_loop_rounds 6 ?_
    repeat (rw [rounds_succ]; go_wp2)
    refine bodyPost_ret (v := .agg (cells5 (alB _))) (by simp [results, Try.results58, go_sem, alB, cells5]) rfl ⟨rfl, ?_⟩
    (repeat' (first | (with_reducible exact Below.refl _ _) | (with_reducible refine Below.alloc ?_ ?_ _) | (with_reducible refine Below.setCell ?_ ?_ _) | (with_reducible refine Below.drew ?_) | (with_reducible refine below_drewN ?_ _) | (with_reducible refine Below.trans ?_ (Below.mono (Hid.out (by assumption)) ?_)) | omega | (simp; done) | (simp; omega)))

/-- The points below p that are not in a list. -/
def cmB (p : Nat) (S : List Int) (j : Nat) : Bool := alB p j && !memB S j
def cmK (p : Nat) (S : List Int) (k j : Nat) : Bool := alB p j && !memK S k j

theorem shl_all (p : Nat) (hp : p ≤ 5) : IntKind.i64.wrap (2 ^ min (IntKind.u64.wrap (p : Int)).toNat 64) = mask (alB p) + 1 := by
  rcases (by omega : p = 0 ∨ p = 1 ∨ p = 2 ∨ p = 3 ∨ p = 4 ∨ p = 5) with rfl | rfl | rfl | rfl | rfl | rfl <;> decide +kernel

theorem shl_w (p : Nat) (hp : p ≤ 5) : wrap64 ((2 : Int) ^ p) = mask (alB p) + 1 := by
  rcases (by omega : p = 0 ∨ p = 1 ∨ p = 2 ∨ p = 3 ∨ p = 4 ∨ p = 5) with rfl | rfl | rfl | rfl | rfl | rfl <;> decide +kernel

theorem w64_in (x : Int) (h0 : -100 ≤ x) (h1 : x ≤ 100) : wrap64 x = x := by unfold wrap64; omega

theorem bi_sub {a b : Bool} (x : Int) (h : b = true → a = true) : bi (a && !b) x = bi a x - bi b x := by
  cases a <;> cases b <;> simp [bi] at h ⊢

theorem mem_lt {p : Nat} {S : List Int} (hS : ptsB (p : Int) S = true) (j : Nat) (h : memB S j = true) : alB p j = true := by
  unfold memB memK at h
  rw [List.any_eq_true] at h
  obtain ⟨i, hi, e⟩ := h
  have := ptsB_at hS i (by simpa using hi)
  have e2 : S.getD i 0 = (j : Int) := by simpa using e
  unfold alB
  simp
  omega

theorem mask_cm {p : Nat} {S : List Int} (hS : ptsB (p : Int) S = true) : mask (cmB p S) = mask (alB p) - mask (memB S) := by
  unfold mask cmB
  rw [bi_sub 1 (mem_lt hS 0), bi_sub 2 (mem_lt hS 1), bi_sub 4 (mem_lt hS 2), bi_sub 8 (mem_lt hS 3), bi_sub 16 (mem_lt hS 4)]
  omega

def cmC (L : List MapN) (F : Int) (S : List Int) : Int := if accB L F S = true then 0 else 1
def cmL (L : List MapN) (F : Int) (S : List Int) : List MapN := if accB L F S = true then L else []
def cmF (L : List MapN) (F : Int) (S : List Int) : Int := if accB L F S = true then F else 0
def cmS (L : List MapN) (F : Int) (S : List Int) : List Int := if accB L F S = true then asc (cmB (fst0 L).toNat S) else []

theorem retAcc_nil {w w' : World} {B : Nat} (hb : Below w.heap.size w w') (C : Int) : RetAcc B [] 0 [] C w (.returned (.tuple #[.agg #[.slice none 0 0, .int .i64 0, .slice none 0 0], .int .i64 C])) w' :=
  ⟨none, 0, none, 0, rfl, ⟨⟨by simp, Or.inl rfl⟩, ⟨by simp, Or.inl rfl⟩, fun k e => (by cases e), fun k e => (by cases e)⟩, hb⟩

theorem own_emptyC {w : World} {b base : Nat} (h : w.heap[b]? = some (.cells #[] 53 (0, 0))) (hb : base ≤ b) : OwnM w base (.slice (some ⟨b, 0, none⟩) 0 0) [] :=
  ⟨by simp [mcels_nil], Or.inr ⟨b, 0, #[], rfl, hb, h, Nat.le_refl _, Nat.zero_le _, rfl, by simp [mcels_nil]⟩⟩

set_option maxHeartbeats 1000000 in
theorem cloneM_any (L : List MapN) (hl : L.length ≤ 1048576) (g off cap : Nat) (w : World) (h : InRowM w (some ⟨g, off, none⟩) L) :
    Calls Try.prog 59 #[.slice (some ⟨g, off, none⟩) L.length cap] w fun e w' => ∃ v, e = .returned v ∧ OwnM w' w.heap.size v L ∧ Below w.heap.size w w' := by
  have hnil : ∀ w : World, (binOp .eql 28 (.slice (some ⟨g, off, none⟩) L.length cap) (.slice none 0 0)).run Try.prog w = .ok (.bool false) w := fun w => Lib.run_eql_slice_nil w _ _ _ L.length cap 0 0 Try.underlying28
  have HN := Lib.hid h
  clear h
  go_enter Try.func59, Try.ntmps59
  go_wp2_with (at_builtin; go_loud (refine wpList_appM rfl _ _ rfl w.heap.size _ [] rfl (own_emptyC (halloc_at _ _ _ rfl) (Nat.le_refl _)) _ _ L (fun e => by cases e) rfl (HN.out.below ((Below.refl _ _).alloc (Nat.le_refl _) _)) (by simp; omega) (by simp) ?_; intro v4 w4 hown4 hgrow4; have HO4 := Lib.hid hown4; have HB4 : Hid (Below w.heap.size w w4) := Lib.hid (((Below.refl _ _).alloc (Nat.le_refl _) _).grown hgrow4 (by simp) (fun q e => by cases e; exact Nat.le_refl _)); clear hown4 hgrow4))
  go_ret
  exact ⟨_, rfl, by have := HO4.out; rw [List.nil_append] at this; exact this, HB4.out⟩

theorem step_appMC {w : World} {ops : Array Oper} {o : Oper} {ac : Act} {K : Act → World → Prop} {Q : Exit → Act → World → Prop} {E : Prop} (hgd : o.guard = none) (s x : Operand)
    (ho : o.op = .call { callee := .builtin .append, args := #[s, x], argTypes := #[28, 28] })
    (base : Nat) (v : Value) (M : List MapN) (hs : ac.eval s = v) (hown : OwnM w base v M)
    (b off c : Nat) (L : List MapN) (hx : ac.eval x = .slice (some ⟨b, off, none⟩) L.length c) (hr : ∀ j, j < L.length → AtM w b off j (L.getD j z0))
    (hlen : M.length + L.length ≤ 2000000) (hbase : base ≤ w.heap.size)
    (h : ∀ v' w', OwnM w' base v' (M ++ L) → w.grownBy w' v.ownBlock → (v'.ownBlock = v.ownBlock ∨ v'.ownBlock = some w.heap.size) → K (ac.put o.dst v') w') :
    if Region.wanted o (yielded ops ac.tmps) = true then Oper.wp Try.prog o ac w K Q else E := by
  obtain ⟨i0, hi, hz0, hz1, hz2⟩ := info_parts info_map
  have hw : Region.wanted o (yielded ops ac.tmps) = true := by simp [Region.wanted, hgd]
  rw [if_pos hw]
  obtain ⟨v', w', hrun, h2, h3, _, h4⟩ := run_append_own_at (P := Try.prog) w base 28 o.type 53 i0 _ 6 48 Try.underlying28 hi hz0 hz1 hz2 rfl (by decide) v M.length (mcels M) hown ⟨b, off, none⟩ L.length c (mcels L) (mcels_len L) (rowM_cells hr) (mcels_one L) (by unfold maxLen; omega) (by omega) hbase
  unfold Oper.wp
  simp [execOp, ho, resolve, invoke, builtin, hs, hx, hrun, Result.andThen]
  refine h v' w' ?_ h3 h4
  unfold OwnM
  rw [mcels_app, List.length_append]
  exact h2

theorem ownM_keepC {w w' : World} {B : Nat} {v : Value} {L : List MapN} (h : OwnM w B v L) (hb : Below w.heap.size w w') : OwnM w' B v L := by
  unfold OwnM at *
  exact h.kept (row := none) ⟨hb.os, hb.tape, hb.output, hb.size, fun j hj _ => hb.block j hj⟩ (by cases hv : v.ownBlock <;> simp)

theorem inRowM_cells {w : World} {g off : Nat} {L : List MapN} (h : InRowM w (some ⟨g, off, none⟩) L) : ∀ j, j < L.length → AtM w g off j (L.getD j z0) := by
  intro j hj
  rcases h with h0 | ⟨b, o, e, _, hc⟩
  · rw [h0] at hj; simp at hj
  · injection e with e
    injection e with e1 e2
    subst e1 e2
    exact hc j hj

def cellV (x : World) (b i : Nat) : Value := (x.cell? ⟨b, i, none⟩).getD undef
/-- Three cells that may be written. -/
def Sh3 (x : World) (b T : Nat) : Prop := ∃ y0 y1 y2, x.heap[b]? = some (.cells #[y0, y1, y2] T (0, 0))
theorem Sh3.at_ {x : World} {b T : Nat} (h : Sh3 x b T) (i : Nat) (hi : i < 3) : x.cell? ⟨b, i, none⟩ = some (cellV x b i) := by
  obtain ⟨y0, y1, y2, e⟩ := h
  unfold cellV
  rw [Joins.cell_of_block e i]
  rcases (by omega : i = 0 ∨ i = 1 ∨ i = 2) with rfl | rfl | rfl <;> rfl
theorem Sh3.fr {x : World} {b T : Nat} (h : Sh3 x b T) (i : Nat) : x.frozen? ⟨b, i, none⟩ = false := by
  obtain ⟨y0, y1, y2, e⟩ := h
  exact blk_free e i
theorem Sh3.same {x x' : World} {b T : Nat} (h : Sh3 x b T) (e : x'.heap[b]? = x.heap[b]?) : Sh3 x' b T := by
  obtain ⟨y0, y1, y2, e2⟩ := h
  exact ⟨y0, y1, y2, e.trans e2⟩
theorem Sh3.set3 {x : World} {b T : Nat} (h : Sh3 x b T) (x0 x1 x2 : Value) : Sh3 (((x.setCell ⟨b, 0, none⟩ x0).setCell ⟨b, 1, none⟩ x1).setCell ⟨b, 2, none⟩ x2) b T := by
  obtain ⟨y0, y1, y2, e⟩ := h
  exact ⟨x0, x1, x2, chain3 e⟩

theorem own_low {w : World} {B n c : Nat} {a : Option Addr} {L : List Int} (h : Own w B (.slice a n c) L) (k : Nat) (e : a = some ⟨k, 0, none⟩) : B ≤ k := by
  subst e
  rcases own_shape h with ⟨e, _⟩ | ⟨g, cap, e, hB, _⟩
  · cases e
  · injection e with e1
    injection e1 with e1
    injection e1 with e1
    omega

theorem res_of {w9 w8 wz : World} {B B1 n8 c8 x : Nat} {a7 a8 : Option Addr} {L : List MapN} {R : List Int} (hL : 0 < L.length) (h7 : RdM w9 B1 a7 L) (hb8 : Below w9.heap.size w9 w8) (h8 : Rd w8 w9.heap.size a8 R) (ho8 : Own w8 w9.heap.size (.slice a8 n8 c8) R) (ht : Turn w8 wz (fun r => r = x)) (hx : x < B1) (hB : B ≤ B1) (hB9 : B1 ≤ w9.heap.size) : Res wz B a7 a8 L R := by
  refine ⟨((h7.below hb8).turn ht fun k hk _ => by omega).mono hB, (h8.turnA ht fun k hk _ => by omega).mono (by omega), fun k e => ?_, fun k e => ?_⟩
  case refine_2 =>
    rcases ho8.2 with ⟨q1, _⟩ | ⟨g, cap, cur, q1, q2, q3, _⟩
    · injection q1 with q1
      rw [q1] at e
      cases e
    · injection q1 with q1
      rw [q1] at e
      injection e with e
      injection e with e
      subst e
      exact ⟨by omega, Nat.lt_of_lt_of_le (Array.getElem?_eq_some_iff.1 q3).1 ht.size⟩
  rcases h7.2 with h0 | ⟨g, eg, h1, h2, _⟩
  · rw [h0] at hL; simp at hL
  · rw [e] at eg
    injection eg with eg
    injection eg with eg
    subst eg
    refine ⟨by omega, Nat.lt_of_lt_of_le h2 (Nat.le_trans hb8.size ht.size), fun e8 => ?_⟩
    have := own_low ho8 k e8
    omega

set_option maxRecDepth 100000 in
set_option maxHeartbeats 8000000 in
theorem sCm_any (L : List MapN) (hl : L.length ≤ 1048576) (F : Int) (S : List Int) (hs : S.length ≤ 1048576) (a b : Option Addr) (c d : Nat) (hc0 : a = none → c = 0) (w : World) (h1 : InRowM w a L) (h2 : InRow w b S) :
    Calls Try.prog 33 #[.agg #[.slice a L.length c, .int .i64 F, .slice b S.length d]] w (RetAcc w.heap.size (cmL L F S) (cmF L F S) (cmS L F S) (cmC L F S) w) := by
  obtain ⟨wb, hwb⟩ : ∃ wb, wb = (w.alloc (.cells #[.slice a L.length c, .int .i64 F, .slice b S.length d] 30)).alloc (.cells #[.slice none 0 0, .int .i64 0, .slice none 0 0] 30) := ⟨_, rfl⟩
  have HWB : Hid (Below w.heap.size w wb) := Lib.hid (by rw [hwb]; exact ((Below.refl _ _).alloc (Nat.le_refl _) _).alloc (by simp) _)
  have hbx : wb.heap[w.heap.size]? = some (.cells #[.slice a L.length c, .int .i64 F, .slice b S.length d] 30 (0, 0)) := by rw [hwb]; exact (halloc_lt _ _ _ (by simp)).trans (halloc_at _ _ _ rfl)
  have hby : wb.heap[w.heap.size + 1]? = some (.cells #[.slice none 0 0, .int .i64 0, .slice none 0 0] 30 (0, 0)) := by rw [hwb]; exact halloc_at _ _ _ (by simp)
  have hwz : w.heap.size + 1 < wb.heap.size := (Array.getElem?_eq_some_iff.1 hby).1
  have HBX := Lib.hid hbx
  have HBY := Lib.hid hby
  have f0 := Joins.cell_of_block hbx 0
  have f1 := Joins.cell_of_block hbx 1
  have f2 := Joins.cell_of_block hbx 2
  simp only [List.getElem?_toArray, List.getElem?_cons_zero, List.getElem?_cons_succ] at f0 f1 f2
  have HAC := Lib.hid (sacc_any L hl F S hs a b c d wb (h1.below HWB.out) (h2.below HWB.out))
  clear hbx hby
  cases hA : accB L F S
  · rw [hA] at HAC
    have e1 : cmL L F S = [] := by unfold cmL; rw [hA]; rfl
    have e2 : cmF L F S = 0 := by unfold cmF; rw [hA]; rfl
    have e3 : cmS L F S = [] := by unfold cmS; rw [hA]; rfl
    have e4 : cmC L F S = 1 := by unfold cmC; rw [hA]; rfl
    rw [e1, e2, e3, e4]
    clear hA h1 h2 e1 e2 e3 e4
    go_enter Try.func33, Try.ntmps33
    go_wp2_with fail
    rw [← hwb]
    clear hwb
    go_wp2_with fail
    refine HAC.out.mono ?_
    rintro e w1 ⟨rfl, hb⟩
    have HB1 : Hid (Below w.heap.size w w1) := Lib.hid (HWB.out.trans (hb.mono (by omega)))
    have hz1 := hb.size
    have hby := (hb.block _ (by omega)).trans HBY.out
    have y0 := Joins.cell_of_block hby 0
    have y1 := Joins.cell_of_block hby 1
    have y2 := Joins.cell_of_block hby 2
    have hfr := blk_free hby
    simp only [List.getElem?_toArray, List.getElem?_cons_zero, List.getElem?_cons_succ] at y0 y1 y2
    have HBYW := Lib.hid hby
    clear hb hby
    go_wp2_with fail
    obtain ⟨wz, hwz2⟩ : ∃ wz, wz = ((w1.setCell ⟨w.heap.size + 1, 0, none⟩ (Value.slice none 0 0)).setCell ⟨w.heap.size + 1, 1, none⟩ (Value.int .i64 0)).setCell ⟨w.heap.size + 1, 2, none⟩ (Value.slice none 0 0) := ⟨_, rfl⟩
    have hres : wz.heap[w.heap.size + 1]? = some (.cells #[(Value.slice none 0 0), (Value.int .i64 0), (Value.slice none 0 0)] 30 (0, 0)) := by rw [hwz2]; exact chain3 HBYW.out
    have HTZ : Hid (Turn w1 wz (fun r => r = w.heap.size + 1)) := Lib.hid (by rw [hwz2]; exact (((Turn.of_below (S := fun r => r = w.heap.size + 1) (Below.refl _ _)).setCell rfl).setCell rfl).setCell rfl)
    have r0 := Joins.cell_of_block hres 0
    have r1 := Joins.cell_of_block hres 1
    have r2 := Joins.cell_of_block hres 2
    simp only [List.getElem?_toArray, List.getElem?_cons_zero, List.getElem?_cons_succ] at r0 r1 r2
    rw [← hwz2]
    clear hwz2 hres
    refine bodyPost_ret (v := .tuple #[.agg #[.slice none 0 0, .int .i64 0, .slice none 0 0], .int .i64 1]) (by simp [results, Try.results33, go_sem, r0, r1, r2]) rfl ?_
    exact retAcc_nil (HB1.out.trans (HTZ.out.bel (fun k hk e => by omega) (by omega))) 1
  obtain ⟨hL, hF0, hF1, hS, _⟩ := accB_true hA
  have e1 : cmL L F S = L := by unfold cmL; rw [if_pos hA]
  have e2 : cmF L F S = F := by unfold cmF; rw [if_pos hA]
  have e3 : cmS L F S = asc (cmB (fst0 L).toNat S) := by unfold cmS; rw [if_pos hA]
  have e4 : cmC L F S = 0 := by unfold cmC; rw [if_pos hA]
  rw [e1, e2, e3, e4]
  rw [hA] at HAC
  have hfst := hL.fst
  obtain ⟨p, hp⟩ : ∃ p, p = (fst0 L).toNat := ⟨_, rfl⟩
  rw [← hp] at hL hfst ⊢
  rw [hfst] at hS
  have hp1 := hL.p1
  have hp5 := hL.p5
  have hm6 := hL.l6
  have hpos : 0 < L.length := hL.l1
  obtain ⟨g, off, rfl, hlt, hat⟩ := h1.at0 hpos
  have h0 : w.cell? ⟨g, off, none⟩ = some (.int .i64 (p : Int)) := by rw [← hfst]; exact hat.1
  have H0 := Lib.hid h0
  have HM := Lib.hid h1
  have HSR := Lib.hid h2
  have HBI := Lib.hid fun wx (hb : Below w.heap.size w wx) => sbits_any (p : Int) (by omega) S hS hs b d wx (h2.below hb)
  have hpt := fun w => spoints_any (cmB p S) w
  rw [mask_cm hS] at hpt
  have HPT := Lib.hid hpt
  have hsh := shl_all p hp5
  have hbd1 := mask_bd (alB p)
  have hbd2 := mask_bd (memB S)
  have hascl := ascK_len (cmB p S) 5
  have HASL : Hid ((asc (cmB p S)).length ≤ 2000000) := Lib.hid (by show (ascK (cmB p S) 5).length ≤ _; omega)
  have hshw := Lib.hid (shl_w p hp5)
  generalize asc (cmB p S) = R at *
  generalize mask (alB p) = MA at *
  generalize mask (memB S) = MB at *
  have hws1 : IntKind.i64.wrap MA = MA := IntWalk.i64_in _ (by omega)
  have hws0 : IntKind.i64.wrap (MA + 1) = MA + 1 := IntWalk.i64_in _ (by omega)
  have hws2 : IntKind.i64.wrap (MA - MB) = MA - MB := IntWalk.i64_in _ (by omega)
  have hwv1 : wrap64 MA = MA := w64_in _ (by omega) (by omega)
  have hwv0 : wrap64 (MA + 1 - 1) = MA := by rw [show MA + 1 - 1 = MA by omega]; exact hwv1
  have hwv2 : wrap64 (MA - MB) = MA - MB := w64_in _ (by omega) (by omega)
  clear hA h1 h2 hL hF0 hF1 hS hp hfst hat h0 e1 e2 e3 e4 hpt hascl
  go_enter Try.func33, Try.ntmps33
  go_wp2_with fail
  rw [← hwb]
  clear hwb
  go_wp2_with fail
  refine HAC.out.mono ?_
  rintro e w1 ⟨rfl, hb⟩
  have HB1 : Hid (Below w.heap.size w w1) := Lib.hid (HWB.out.trans (hb.mono (by omega)))
  have hz1 := hb.size
  have hbx := (hb.block _ (by omega)).trans HBX.out
  have hby := (hb.block _ (by omega)).trans HBY.out
  have HBX := Lib.hid hbx
  have HBY := Lib.hid hby
  have f0 := Joins.cell_of_block hbx 0
  have f1 := Joins.cell_of_block hbx 1
  have f2 := Joins.cell_of_block hbx 2
  simp only [List.getElem?_toArray, List.getElem?_cons_zero, List.getElem?_cons_succ] at f0 f1 f2
  have e0 := (HB1.out.cell (p := ⟨g, off, none⟩) hlt).trans H0.out
  have hsz : w.heap.size < w1.heap.size := by omega
  clear hb hbx hby HAC
  go_wp2_with fail
  have hsA1 := HBX.out
  have hsB1 : Sh3 w1 (w.heap.size + 1) 30 := ⟨_, _, _, HBY.out⟩
  have c0 : ∀ x : World, Sh3 x (w.heap.size + 1) 30 → x.cell? ⟨w.heap.size + 1, 0, none⟩ = some (cellV x (w.heap.size + 1) 0) := fun x h => h.at_ 0 (by omega)
  have c1 : ∀ x : World, Sh3 x (w.heap.size + 1) 30 → x.cell? ⟨w.heap.size + 1, 1, none⟩ = some (cellV x (w.heap.size + 1) 1) := fun x h => h.at_ 1 (by omega)
  have c2 : ∀ x : World, Sh3 x (w.heap.size + 1) 30 → x.cell? ⟨w.heap.size + 1, 2, none⟩ = some (cellV x (w.heap.size + 1) 2) := fun x h => h.at_ 2 (by omega)
  have fr : ∀ (x : World) (i : Nat), Sh3 x (w.heap.size + 1) 30 → x.frozen? ⟨w.heap.size + 1, i, none⟩ = false := fun x i h => h.fr i
  have d0 : ∀ x : World, x.heap[w.heap.size]? = some (.cells #[.slice (some ⟨g, off, none⟩) L.length c, .int .i64 F, .slice b S.length d] 30 (0, 0)) → x.cell? ⟨w.heap.size, 0, none⟩ = some (.slice (some ⟨g, off, none⟩) L.length c) := fun x h => Joins.cell_of_block h 0
  have d1 : ∀ x : World, x.heap[w.heap.size]? = some (.cells #[.slice (some ⟨g, off, none⟩) L.length c, .int .i64 F, .slice b S.length d] 30 (0, 0)) → x.cell? ⟨w.heap.size, 1, none⟩ = some (.int .i64 F) := fun x h => Joins.cell_of_block h 1
  have d2 : ∀ x : World, x.heap[w.heap.size]? = some (.cells #[.slice (some ⟨g, off, none⟩) L.length c, .int .i64 F, .slice b S.length d] 30 (0, 0)) → x.cell? ⟨w.heap.size, 2, none⟩ = some (.slice b S.length d) := fun x h => Joins.cell_of_block h 2
  clear f0 f1 f2 e0
  have hshv := hshw.out
  go_region_held3 (fun w' => w'.heap[w.heap.size]? = some (.cells #[.slice (some ⟨g, off, none⟩) L.length c, .int .i64 F, .slice b S.length d] 30 (0, 0)) ∧ Sh3 w' (w.heap.size + 1) 30)
    (first | exact ⟨hsA1, hsB1⟩ | exact ⟨(halloc_lt _ _ _ hsz).trans hsA1, hsB1.same (halloc_lt _ _ _ (by omega))⟩ | exact ⟨hsA7, hsB7⟩ | exact ⟨hsA8, hsB8⟩ | exact ⟨(hset_ne _ _ _ _ (by simp)).trans ((hset_ne _ _ _ _ (by simp)).trans ((hset_ne _ _ _ _ (by simp)).trans hsA8)), hsB8.set3 _ _ _⟩ | fail "keep")
    (first
      | (refine step_appMC rfl (.tmp 17) (.tmp 19) rfl w1.heap.size (.slice (some ⟨w1.heap.size, 0, none⟩) 0 0) [] rfl (own_emptyC (halloc_at w1 (.cells #[] 53) _ rfl) (Nat.le_refl _)) g off c L rfl (inRowM_cells (HM.out.below (by (repeat' (first | (with_reducible exact Below.refl _ _) | (with_reducible refine Below.alloc ?_ ?_ _) | (with_reducible refine Below.setCell ?_ ?_ _) | (with_reducible refine Below.drew ?_) | (with_reducible refine below_drewN ?_ _) | (with_reducible refine Below.trans ?_ (Below.mono (Hid.out (by assumption)) ?_)) | omega | (simp; done) | (simp; omega)))))) (by simp; omega) (by simp) ?_; intro v7 w7 hown7 hgrow7 hat7; obtain ⟨a7, c7, rfl, hrd7⟩ := ownM_rd hown7 (by simp; omega); have HO7 := Lib.hid hown7; have HR7 := Lib.hid hrd7; have hz7 := hgrow7.size; (try simp at hz7); have HB7 : Hid (Below w1.heap.size w1 w7) := Lib.hid (Below.grown (by (repeat' (first | (with_reducible exact Below.refl _ _) | (with_reducible refine Below.alloc ?_ ?_ _) | (with_reducible refine Below.setCell ?_ ?_ _) | (with_reducible refine Below.drew ?_) | (with_reducible refine below_drewN ?_ _) | (with_reducible refine Below.trans ?_ (Below.mono (Hid.out (by assumption)) ?_)) | omega | (simp; done) | (simp; omega)))) hgrow7 (by simp) (fun q e => by cases e; exact Nat.le_refl _)); have hsA7 := (HB7.out.block _ hsz).trans hsA1; have hsB7 := hsB1.same (HB7.out.block _ (show w.heap.size + 1 < _ by omega)); clear hown7 hgrow7 hat7 hrd7)
      | (go_at_call 57; (with_reducible refine (HBI.out _ (by (repeat' (first | (with_reducible exact Below.refl _ _) | (with_reducible refine Below.alloc ?_ ?_ _) | (with_reducible refine Below.setCell ?_ ?_ _) | (with_reducible refine Below.drew ?_) | (with_reducible refine below_drewN ?_ _) | (with_reducible refine Below.trans ?_ (Below.mono (Hid.out (by assumption)) ?_)) | omega | (simp; done) | (simp; omega))))).mono ?_); rintro e w9 ⟨rfl, rfl⟩)
      | (go_at_call 56; (with_reducible refine (HPT.out _).mono ?_); rintro e w8 ⟨v8, rfl, hown8, hb8⟩; obtain ⟨a8, c8, rfl, hrd8⟩ := own_rd hown8 HASL.out; have HO8 := Lib.hid hown8; have hz8 := hb8.size; (try simp at hz8); have HR8 := Lib.hid hrd8; have hsA8 := (hb8.block _ (show w.heap.size < _ by omega)).trans hsA7; have hsB8 := hsB7.same (hb8.block _ (show w.heap.size + 1 < _ by omega)); have HB8 := Lib.hid hb8; clear hown8 hrd8 hb8)
      | fail "arm")
  obtain ⟨wz, hwz2⟩ : ∃ wz, wz = ((w8.setCell ⟨w.heap.size + 1, 0, none⟩ (Value.slice a7 L.length c7)).setCell ⟨w.heap.size + 1, 1, none⟩ (Value.int .i64 F)).setCell ⟨w.heap.size + 1, 2, none⟩ (Value.slice a8 R.length c8) := ⟨_, rfl⟩
  have hres : wz.heap[w.heap.size + 1]? = some (.cells #[(Value.slice a7 L.length c7), (Value.int .i64 F), (Value.slice a8 R.length c8)] 30 (0, 0)) := by
    rw [hwz2]; obtain ⟨y0, y1, y2, e⟩ := hsB8; exact chain3 e
  have HTZ : Hid (Turn w8 wz (fun r => r = w.heap.size + 1)) := Lib.hid (by rw [hwz2]; exact (((Turn.of_below (S := fun r => r = w.heap.size + 1) (Below.refl _ _)).setCell rfl).setCell rfl).setCell rfl)
  have r0 := Joins.cell_of_block hres 0
  have r1 := Joins.cell_of_block hres 1
  have r2 := Joins.cell_of_block hres 2
  simp only [List.getElem?_toArray, List.getElem?_cons_zero, List.getElem?_cons_succ] at r0 r1 r2
  rw [← hwz2]
  clear hwz2 hres hsA8 hsB8 hsA7 hsB7 hsA1 hsB1 c0 c1 c2 fr d0 d1 d2
  go_wp2_with fail
  refine bodyPost_ret (v := .tuple #[.agg #[.slice a7 L.length c7, .int .i64 F, .slice a8 R.length c8], .int .i64 0]) (by simp [results, Try.results33, go_sem, r0, r1, r2]) rfl ?_
  have hr7 := HR7.out
  rw [List.nil_append] at hr7
  have HB8Z := (HB8.out.mono (by omega)).trans (HTZ.out.bel (B := w.heap.size) (fun k hk e => by omega) (by omega))
  exact ⟨a7, c7, a8, c8, rfl, res_of hpos hr7 HB8.out HR8.out HO8.out HTZ.out (by omega) (by omega) (by omega), (HB1.out.trans (HB7.out.mono (by omega))).trans HB8Z⟩

end Go.Proofs.Ytiakoplfknkhmaa
