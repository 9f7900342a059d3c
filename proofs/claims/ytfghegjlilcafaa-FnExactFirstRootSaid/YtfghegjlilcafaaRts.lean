/- Roots of a map: the contract of impl.rootsOf. -/
import Derived.Test.YtfghegjlilcafaaMps
import Derived.Test.YtfghegjlilcafaaAll
import Derived.Test.YtfghegjlilcafaaPow
import Derived.Test.YtfghegjlilcafaaPowx
import Derived.Test.YtfghegjlilcafaaIdem0
import Derived.Maps.OwnIn
import Derived.Stop.RegionWithIn
namespace Go.Proofs.Ytfghegjlilcafaa
open Go Go.RowKit
attribute [local go_sem] Oper.semAt_some

def rtB (n : Nat) (t : Nat → Int) (k c : Nat) : Bool := eqB (n : Int) (pow (n : Int) (dgF n c) k) (n : Int) t
/-- The roots among the first m maps. -/
def rtL (n : Nat) (t : Nat → Int) (k m : Nat) : List MapN := ((List.range m).filter (rtB n t k)).map fun c => ((n : Int), dgF n c)
theorem rtL_yes {n : Nat} {t : Nat → Int} {k m : Nat} (h : rtB n t k m = true) : rtL n t k (m + 1) = rtL n t k m ++ [((n : Int), dgF n m)] := by
  unfold rtL; rw [List.range_succ, List.filter_append, List.map_append]; simp [h]
theorem rtL_no {n : Nat} {t : Nat → Int} {k m : Nat} (h : rtB n t k m = false) : rtL n t k (m + 1) = rtL n t k m := by
  unfold rtL; rw [List.range_succ, List.filter_append, List.map_append]; simp [h]
theorem rtL_le (n : Nat) (t : Nat → Int) (k m : Nat) : (rtL n t k m).length ≤ m := by
  unfold rtL; rw [List.length_map]; exact Nat.le_trans (List.length_filter_le _ _) (by simp)
/-- The code. -/
def rtC (p : Int) (t : Nat → Int) (k : Int) : Int := if isB p t = true then (if 1 ≤ k ∧ k ≤ 6 then 0 else 2) else 1
def rtR (p : Int) (t : Nat → Int) (k : Int) : List MapN := if rtC p t k = 0 then rtL p.toNat t k.toNat (p.toNat ^ p.toNat) else []
theorem rtC_1 {p : Int} {t : Nat → Int} {k : Int} (h : isB p t = false) : rtC p t k = 1 ∧ rtR p t k = [] := by
  have e : rtC p t k = 1 := by unfold rtC; rw [h]; rfl
  exact ⟨e, by unfold rtR; rw [if_neg (by rw [e]; decide)]⟩
theorem rtC_2 {p : Int} {t : Nat → Int} {k : Int} (h : isB p t = true) (hk : ¬ (1 ≤ k ∧ k ≤ 6)) : rtC p t k = 2 ∧ rtR p t k = [] := by
  have e : rtC p t k = 2 := by unfold rtC; rw [if_pos h, if_neg hk]
  exact ⟨e, by unfold rtR; rw [if_neg (by rw [e]; decide)]⟩
theorem rtC_0 {n k : Nat} {t : Nat → Int} (h : isB (n : Int) t = true) (h1 : 1 ≤ k) (h6 : k ≤ 6) : rtC (n : Int) t (k : Int) = 0 ∧ rtR (n : Int) t (k : Int) = rtL n t k (n ^ n) := by
  have e : rtC (n : Int) t (k : Int) = 0 := by unfold rtC; rw [if_pos h, if_pos (by omega)]
  exact ⟨e, by unfold rtR; rw [if_pos e]; rfl⟩

/-- The call returns a list of maps of its own and a code. -/
def RetOwnMC (B : Nat) (L : List MapN) (C : Int) (w : World) (e : Ending) (w' : World) : Prop := ∃ v, e = .returned (.tuple #[v, .int .i64 C]) ∧ OwnM w' B v L ∧ Below w.heap.size w w'

/-- append of one map onto a list of maps of the call's own, in a fence. -/
theorem wpListIn_app6 {F : Fence} {nF : Nat} {w : World} {ops : Array Oper} {rest : List Oper} {o : Oper} {ac : Act} {Q : Exit → Act → World → Prop} (hgd : o.guard = none) (s x : Operand)
    (ho : o.op = .call { callee := .builtin .append, args := #[s, x], argTypes := #[62, 62] })
    (base : Nat) (v : Value) (M : List MapN) (hs : ac.eval s = v) (hown : OwnM w base v M)
    (b c : Nat) (y : MapN) (hx : ac.eval x = .slice (some ⟨b, 0, none⟩) 1 c) (hb : w.heap[b]? = some (.cells (mcells y.1 y.2) 28 (0, 0)))
    (hlen : M.length ≤ 1000000) (hbase : base ≤ w.heap.size)
    (h : ∀ v' w', OwnM w' base v' (M ++ [y]) → w.grownBy w' v.ownBlock → (v'.ownBlock = v.ownBlock ∨ v'.ownBlock = some w.heap.size) → wpListIn F nF Try.prog ops Q rest (ac.put o.dst v') w') : wpListIn F nF Try.prog ops Q (o :: rest) ac w := by
  obtain ⟨i0, hi, hz0, hz1, hz2⟩ := info_parts info_map
  refine wpListIn_append_own_at w hgd s x _ ho base 28 i0 _ 6 48 Try.underlying62 hi hz0 hz1 hz2 rfl (by decide) v M.length (mcels M) hs hown ⟨b, 0, none⟩ 1 c (mcels [y]) hx rfl (rowM_cells (L := [y]) (at_one6 hb)) (mcels_one [y]) (by unfold maxLen; omega) (by omega) hbase ?_
  intro v' w' h1 h2 _ h4
  refine h v' w' ?_ h2 h4
  unfold OwnM
  rw [mcels_app, List.length_append]
  exact h1

theorem app_form6 {w : World} {B : Nat} {v : Value} {M : List MapN} {y : MapN} (h : OwnM w B v (M ++ [y])) : ∃ g cap, v = .slice (some ⟨g, 0, none⟩) (M.length + 1) cap := by
  rcases h.2 with ⟨_, h0⟩ | ⟨g, cap, cur, h1, _⟩
  · simp at h0
  · exact ⟨g, cap, by rw [h1]; simp⟩

theorem ownM_kept6 {w w' : World} {base b : Nat} {v : Value} {L : List MapN} (h : OwnM w base v L) (hg : w.grownBy w' (some b)) (hb : some b ≠ v.ownBlock) : OwnM w' base v L := h.kept hg (Or.inr fun e => hb e.symm)

/-- Between two rounds: the roots found, the map, the number. -/
def RtI (n : Nat) (t : Nat → Int) (K b0 bk bR : Nat) (w : World) (m : Nat) (S : List Nat) (W : World) : Prop :=
  ∃ v, W.heap[bR]? = some (.cells #[v] 62 (0, 0)) ∧ OwnM W (bR + 1) v (rtL n t K m) ∧ W.heap[b0]? = some (.cells (mcells (n : Int) t) 28 (0, 0)) ∧ W.heap[bk]? = some (.cells #[.int .i64 (K : Int)] 2 (0, 0)) ∧ Below w.heap.size w W ∧
    (∀ b, b ∈ S → b ≠ bR ∧ b ≠ b0 ∧ b ≠ bk ∧ some b ≠ v.ownBlock ∧ b < W.heap.size)

theorem rtI_abs (n : Nat) (t : Nat → Int) (K b0 bk bR : Nat) (w : World) (B : Nat) (hB : w.heap.size ≤ B) : Abs B (RtI n t K b0 bk bR w) := by
  rintro m S X Y row ⟨v, h1, h2, h3, h4, h5, h6⟩ hg hr
  refine ⟨v, (hg.block _ (Array.getElem?_eq_some_iff.1 h1).1 (fun e => (h6 _ (hr _ e.symm).2).1 rfl)).trans h1, h2.kept hg ?_, (hg.block _ (Array.getElem?_eq_some_iff.1 h3).1 (fun e => (h6 _ (hr _ e.symm).2).2.1 rfl)).trans h3, (hg.block _ (Array.getElem?_eq_some_iff.1 h4).1 (fun e => (h6 _ (hr _ e.symm).2).2.2.1 rfl)).trans h4, h5.grown hg h5.size (fun r e => Nat.le_trans hB (hr r e).1), fun b hb => ?_⟩
  · by_cases e : v.ownBlock = row
    · cases row with
      | none => exact Or.inl e
      | some r => exact absurd e.symm (h6 r (hr r rfl).2).2.2.2.1
    · exact Or.inr e
  · obtain ⟨a1, a2, a3, a4, a5⟩ := h6 b hb
    exact ⟨a1, a2, a3, a4, Nat.lt_of_lt_of_le a5 hg.size⟩

theorem rtI_fresh (n : Nat) (t : Nat → Int) (K b0 bk bR : Nat) (w : World) : Fresh (RtI n t K b0 bk bR w) := by
  rintro m S X Y b ⟨v, h1, h2, h3, h4, h5, h6⟩ hg hb hbY
  have l1 := (Array.getElem?_eq_some_iff.1 h1).1
  have l3 := (Array.getElem?_eq_some_iff.1 h3).1
  have l4 := (Array.getElem?_eq_some_iff.1 h4).1
  refine ⟨v, (hg.block _ l1 (fun e => by cases e)).trans h1, h2.kept hg ?_, (hg.block _ l3 (fun e => by cases e)).trans h3, (hg.block _ l4 (fun e => by cases e)).trans h4, h5.grown hg h5.size (fun r e => by cases e), fun c hc => ?_⟩
  · cases e : v.ownBlock with
    | none => exact Or.inl rfl
    | some r => exact Or.inr (fun e => by cases e)
  · rcases List.mem_cons.1 hc with rfl | hc
    · refine ⟨by omega, by omega, by omega, fun e => ?_, hbY⟩
      have := (h2.lt c e.symm).2
      omega
    · obtain ⟨a1, a2, a3, a4, a5⟩ := h6 c hc
      exact ⟨a1, a2, a3, a4, Nat.lt_of_lt_of_le a5 hg.size⟩

set_option maxRecDepth 100000 in
set_option maxHeartbeats 4000000 in
theorem irts_any (p : Int) (t : Nat → Int) (k : Int) (w : World) :
    Calls Try.prog 90 #[mv p t, .int .i64 k] w (RetOwnMC w.heap.size (rtR p t k) (rtC p t k) w) := by
  have HL := fun w => iis_any p t w
  cases hv : isB p t
  · rw [(rtC_1 hv).1, (rtC_1 hv).2]
    rw [hv] at HL
    have HL := Lib.hid HL
    simp only [mv, mcells]
    go_enter Try.func90, Try.ntmps90
    go_wp2_with fail
    (refine (HL.out _).mono ?_; rintro e w1 ⟨rfl, hb⟩; obtain ⟨hc, hf⟩ := bcell hb; have hz := hb.size; have Hb := Lib.hid hb; (try simp at hz hc hf); (try (have hy := Nat.lt_of_succ_le hz)); have hz0 : w.heap.size < w1.heap.size := (by omega); have hz1 : w.heap.size + 1 < w1.heap.size := (by omega); clear hb)
    go_wp2_with fail
    go_ret2
    refine ⟨_, rfl, World.ownsRow_nil _ _ _ _, ?_⟩
    (repeat' (first | (with_reducible exact Below.refl _ _) | (with_reducible refine Below.alloc ?_ ?_ _) | (with_reducible refine Below.setCell ?_ ?_ _) | (with_reducible refine Below.drew ?_) | (with_reducible refine below_drewN ?_ _) | (with_reducible refine Below.trans ?_ (Below.mono (Hid.out (by assumption)) ?_)) | omega | (simp; done) | (simp; omega)))
  rw [hv] at HL
  have HL := Lib.hid HL
  by_cases hk : 1 ≤ k ∧ k ≤ 6
  rotate_left
  · rw [(rtC_2 hv hk).1, (rtC_2 hv hk).2]
    have hk2 : k < 1 ∨ 6 < k := by omega
    clear hv hk
    simp only [mv, mcells]
    rcases hk2 with hk2 | hk2
    · go_enter Try.func90, Try.ntmps90
      go_wp2_with fail
      (refine (HL.out _).mono ?_; rintro e w1 ⟨rfl, hb⟩; obtain ⟨hc, hf⟩ := bcell hb; have hz := hb.size; have Hb := Lib.hid hb; (try simp at hz hc hf); (try (have hy := Nat.lt_of_succ_le hz)); have hz0 : w.heap.size < w1.heap.size := (by omega); have hz1 : w.heap.size + 1 < w1.heap.size := (by omega); clear hb)
      go_wp2_with fail
      go_ret2
      refine ⟨_, rfl, World.ownsRow_nil _ _ _ _, ?_⟩
      (repeat' (first | (with_reducible exact Below.refl _ _) | (with_reducible refine Below.alloc ?_ ?_ _) | (with_reducible refine Below.setCell ?_ ?_ _) | (with_reducible refine Below.drew ?_) | (with_reducible refine below_drewN ?_ _) | (with_reducible refine Below.trans ?_ (Below.mono (Hid.out (by assumption)) ?_)) | omega | (simp; done) | (simp; omega)))
    · have hk1 : ¬ (k < 1) := by omega
      go_enter Try.func90, Try.ntmps90
      go_wp2_with fail
      (refine (HL.out _).mono ?_; rintro e w1 ⟨rfl, hb⟩; obtain ⟨hc, hf⟩ := bcell hb; have hz := hb.size; have Hb := Lib.hid hb; (try simp at hz hc hf); (try (have hy := Nat.lt_of_succ_le hz)); have hz0 : w.heap.size < w1.heap.size := (by omega); have hz1 : w.heap.size + 1 < w1.heap.size := (by omega); clear hb)
      go_wp2_with fail
      go_ret2
      refine ⟨_, rfl, World.ownsRow_nil _ _ _ _, ?_⟩
      (repeat' (first | (with_reducible exact Below.refl _ _) | (with_reducible refine Below.alloc ?_ ?_ _) | (with_reducible refine Below.setCell ?_ ?_ _) | (with_reducible refine Below.drew ?_) | (with_reducible refine below_drewN ?_ _) | (with_reducible refine Below.trans ?_ (Below.mono (Hid.out (by assumption)) ?_)) | omega | (simp; done) | (simp; omega)))
  obtain ⟨h1, h5⟩ := isB_pts hv
  obtain ⟨n, rfl⟩ := Int.eq_ofNat_of_zero_le (show 0 ≤ p by omega)
  obtain ⟨K, rfl⟩ := Int.eq_ofNat_of_zero_le (show 0 ≤ k by omega)
  have hn1 : 1 ≤ n := by omega
  have hn5 : n ≤ 5 := by omega
  have hK1 : 1 ≤ K := by omega
  have hK6 : K ≤ 6 := by omega
  obtain ⟨hk1, hk6⟩ := hk
  rw [(rtC_0 hv hK1 hK6).1, (rtC_0 hv hK1 hK6).2]
  have HV := Lib.hid hv
  clear hv h1 h5
  refine (callsIn_wide (n := 5)).1 ?_
  refine callsIn_of_wp_marks Try.func90 rfl trivial ?_ rfl
  simp only [Try.ntmps90, List.size_toArray, List.length_cons, List.length_nil, Nat.reduceAdd, Nat.reduceSub, Array.replicate_succ, Array.replicate_zero, List.push_toArray, List.append_toArray, List.nil_append, List.cons_append]
  have hbx : ((w.alloc (.cells (mcells (n : Int) t) 28)).alloc (.cells #[.int .i64 (K : Int)] 2)).heap[w.heap.size]? = some (.cells (mcells (n : Int) t) 28 (0, 0)) := (halloc_lt _ _ _ (by simp)).trans (halloc_at _ _ _ rfl)
  have hbk : ((w.alloc (.cells (mcells (n : Int) t) 28)).alloc (.cells #[.int .i64 (K : Int)] 2)).heap[w.heap.size + 1]? = some (.cells #[.int .i64 (K : Int)] 2 (0, 0)) := halloc_at _ _ _ (by simp)
  have HBX := Lib.hid hbx
  have HBK := Lib.hid hbk
  clear hbx hbk
  simp only [mv, mcells] at HL
  simp only [mv, mcells]
  gi_wp2_with (first
    | (refine ⟨trivial, ?_⟩; gi_at_call 58; refine (callsIn_wide.2 (HL.out _)).mono ?_; rintro e w1 ⟨rfl, hb⟩; have HB1 := Lib.hid hb; have hz1 := hb.size; (try simp at hz1); have hf1 := (hb.block w.heap.size (by simp; omega)).trans HBX.out; have hk9 := (hb.block (w.heap.size + 1) (by simp)).trans HBK.out; have HF1 := Lib.hid hf1; have HK1 := Lib.hid hk9; have y0 := (blk6 hf1).1; have z0 := Joins.cell_of_block hk9 0; simp only [List.getElem?_toArray, List.getElem?_cons_zero] at z0; have hz2 : w.heap.size + 1 < w1.heap.size := (by omega); have hz3 : w.heap.size < w1.heap.size := (by omega); clear hb hf1 hk9)
    | (refine ⟨trivial, ?_⟩; gi_at_call 72; refine (callsIn_wide.2 (mapsOf_any (n : Int) _)).mono ?_; rintro e w2 ⟨rfl, hw2⟩))
  have HC := Lib.hid fun m hm => maps_counted hn1 hn5 m hm (w1.heap.size + 1) w2 (by rw [hw2]; exact halloc_at _ _ _ (by simp))
  have hb2 : Below w.heap.size w w2 := by rw [hw2]; (repeat' (first | (with_reducible exact Below.refl _ _) | (with_reducible refine Below.alloc ?_ ?_ _) | (with_reducible refine Below.setCell ?_ ?_ _) | (with_reducible refine Below.drew ?_) | (with_reducible refine below_drewN ?_ _) | (with_reducible refine Below.trans ?_ (Below.mono (Hid.out (by assumption)) ?_)) | omega | (simp; done) | (simp; omega)))
  have hr0 : w2.heap[w1.heap.size]? = some (.cells #[.slice none 0 0] 62 (0, 0)) := by rw [hw2]; exact (halloc_lt _ _ _ (by simp)).trans (halloc_at _ _ _ rfl)
  have hf0 : w2.heap[w.heap.size]? = some (.cells (mcells (n : Int) t) 28 (0, 0)) := by rw [hw2]; exact (halloc_lt _ _ _ (by simp; omega)).trans ((halloc_lt _ _ _ hz3).trans HF1.out)
  have hk0 : w2.heap[w.heap.size + 1]? = some (.cells #[.int .i64 (K : Int)] 2 (0, 0)) := by rw [hw2]; exact (halloc_lt _ _ _ (by simp; omega)).trans ((halloc_lt _ _ _ hz2).trans HK1.out)
  have hz4 : w1.heap.size + 1 < w2.heap.size := by rw [hw2]; simp
  have HB2 := Lib.hid hb2
  have HR0 := Lib.hid hr0
  have HF0 := Lib.hid hf0
  have HK0 := Lib.hid hk0
  try rw [← hw2]
  clear hw2 hb2 hr0 hf0 hk0 y0 z0
  refine range_counted rfl (by omega) (gf := 101) (lb := #[.pointer (some ⟨w1.heap.size + 1, 0, none⟩)]) rfl trivial (fun _ _ => rfl) (encs := fun k => #[mv (n : Int) (dgF n k)]) (S0 := [w1.heap.size + 1]) (N := n ^ n) (HC.out _ (by omega)) (Below.refl _ _) (fun _ => rfl)
    (RtI n t K w.heap.size (w.heap.size + 1) w1.heap.size w) (rtI_abs n t K _ _ _ w _ (by omega)) (rtI_fresh n t K _ _ _ w) ?start
    (fun m a' W => ∃ Bx, w1.heap.size + 1 < Bx ∧ W.heap[Bx]? = some (.cells (mcells (n : Int) (dgF n m)) 28 (0, 0)) ∧
      a' = { tmps := #[mv (n : Int) t, .int .i64 (K : Int), .pointer (some ⟨w.heap.size, 0, none⟩), .pointer (some ⟨w.heap.size + 1, 0, none⟩), .slice none 0 0, .int .i64 0, .pointer (some ⟨w1.heap.size, 0, none⟩), .pointer (some ⟨Bx, 0, none⟩), mv (n : Int) t, .bool true, .bool false,
        .int .i64 (K : Int), .bool (decide ((K : Int) < 1)), .bool (decide ((K : Int) < 1)), .int .i64 (K : Int), .bool (decide (6 < (K : Int))), .bool (decide ((K : Int) < 1) || decide (6 < (K : Int))), .pointer (some ⟨w.heap.size, 0, none⟩), .int .i64 (n : Int),
        .func (.func 101) #[] #[.pointer (some ⟨w1.heap.size + 1, 0, none⟩)], mv (n : Int) (dgF n m), undef, undef, undef, undef, undef, undef, undef, undef, undef, undef], defers := [] })
    ?hax ?assign ?body ?done
  case start =>
    refine ⟨.slice none 0 0, HR0.out, World.ownsRow_nil _ _ _ _, HF0.out, HK0.out, HB2.out, fun b hb => ?_⟩
    have : b = w1.heap.size + 1 := by simpa using hb
    exact ⟨by omega, by omega, by omega, (fun e => by cases e), by omega⟩
  case hax =>
    rintro k a' _ X Y row ⟨Bx, h1, h2, h3⟩ hg hr
    exact ⟨Bx, h1, (hg.block Bx (Array.getElem?_eq_some_iff.1 h2).1 (fun e => by obtain ⟨_, o, ho, hc⟩ := hr Bx e.symm; rw [h2] at ho; cases ho; cases hc)).trans h2, h3⟩
  case assign =>
    rintro l k S W Kx hk hi hlt hK
    have HK := Lib.hid hK
    clear hi hK
    simp only [mv, mcells]
    gi_wp2
    refine HK.out _ _ ?_ ?_
    · exact World.grownBy_alloc _ _ _
    · exact ⟨W.heap.size, by omega, halloc_at _ _ _ rfl, rfl⟩
  case body =>
    rintro l m S a' W hm ⟨v, hr, hown, hf, hk, hb, hS⟩ ⟨Bx, hBx, cx, rfl⟩ hlt
    have hr1 : w1.heap.size < W.heap.size := (Array.getElem?_eq_some_iff.1 hr).1
    have hf1 : w.heap.size < W.heap.size := (Array.getElem?_eq_some_iff.1 hf).1
    have hk1' : w.heap.size + 1 < W.heap.size := (Array.getElem?_eq_some_iff.1 hk).1
    have hBl : Bx < W.heap.size := (Array.getElem?_eq_some_iff.1 cx).1
    have hle := rtL_le n t K m
    have hm9 : m ≤ 3125 := by have := pow_le hn1 hn5; omega
    obtain ⟨x0, x1, x2, x3, x4, x5⟩ := blk6 cx
    obtain ⟨y0, y1, y2, y3, y4, y5⟩ := blk6 hf
    have z0 := Joins.cell_of_block hk 0
    simp only [List.getElem?_toArray, List.getElem?_cons_zero] at z0
    have HRR := Lib.hid hr
    have HFX := Lib.hid hf
    have HKX := Lib.hid hk
    have HOW := Lib.hid hown
    have HB := Lib.hid hb
    have HS := Lib.hid hS
    have HCX := Lib.hid cx
    have hpw := fun z => ipow_any (n : Int) (dgF n m) (dgF_ok hn1 hn5) (K : Int) (by omega) (by omega) z
    simp only [Int.toNat_natCast] at hpw
    have heq := runEqM (n : Int) (pow (n : Int) (dgF n m) K) (n : Int) t
    have hrb : eqB (n : Int) (pow (n : Int) (dgF n m) K) (n : Int) t = rtB n t K m := rfl
    rw [hrb] at heq
    clear hr hown hf hk hb hS cx hrb
    unfold RtI
    cases hcb : rtB n t K m
    · have HST := Lib.hid (rtL_no hcb)
      rw [hcb] at heq
      clear hcb
      generalize pow (n : Int) (dgF n m) K = m1 at *
      generalize dgF n m = g at *
      simp only [mv, mcells] at *
      have HPW := Lib.hid hpw
      clear hpw
      gi_wp2
      gi_region_with (refine ⟨trivial, ?_⟩; gi_at_call 117; refine (CallsIn.inRound l (callsIn_wide.2 (HPW.out _))).mono ?_; rintro e w3 ⟨rfl, hb⟩; have hf3 := (hb.block w.heap.size hf1).trans HFX.out; obtain ⟨q0, q1, q2, q3, q4, q5⟩ := blk6 hf3; have HB3 : Hid (Below W.heap.size W w3) := Lib.hid (by first | exact ((Below.refl _ _).drew).trans hb | exact (below_drewN (Below.refl _ _) _).trans hb | exact hb); clear hb hf3)
      all_goals gi_wp2
      all_goals
        refine ⟨HB3.out.size, fun b _ hbW => HB3.out.block b hbW, v, (HB3.out.block _ hr1).trans HRR.out, ?_, (HB3.out.block _ hf1).trans HFX.out, (HB3.out.block _ hk1').trans HKX.out, HB.out.trans (HB3.out.mono HB.out.size), fun b hb => ?_⟩
        · rw [HST.out]; exact OwnM.bel HOW.out HB3.out
        · obtain ⟨a1, a2, a3, a4, a5⟩ := HS.out b hb
          exact ⟨a1, a2, a3, a4, Nat.lt_of_lt_of_le a5 HB3.out.size⟩
    · have HST := Lib.hid (rtL_yes hcb)
      rw [hcb] at heq
      clear hcb
      generalize rtL n t K (m + 1) = LN at *
      generalize rtL n t K m = LL at *
      generalize pow (n : Int) (dgF n m) K = m1 at *
      generalize dgF n m = g at *
      simp only [mv, mcells] at *
      have HPW := Lib.hid hpw
      clear hpw
      gi_wp2
      gi_region_with (refine ⟨trivial, ?_⟩; gi_at_call 117; refine (CallsIn.inRound l (callsIn_wide.2 (HPW.out _))).mono ?_; rintro e w3 ⟨rfl, hb⟩; have hf3 := (hb.block w.heap.size hf1).trans HFX.out; obtain ⟨q0, q1, q2, q3, q4, q5⟩ := blk6 hf3; have HB3 : Hid (Below W.heap.size W w3) := Lib.hid (by first | exact ((Below.refl _ _).drew).trans hb | exact (below_drewN (Below.refl _ _) _).trans hb | exact hb); have hr3 := (hb.block w1.heap.size hr1).trans HRR.out; have s0 := Joins.cell_of_block hr3 0; have hfr := Joins.unfrozen_of_block hr3 0; have hg3 := (hb.block Bx hBl).trans HCX.out; obtain ⟨u0, u1, u2, u3, u4, u5⟩ := blk6 hg3; have HR3 := Lib.hid hr3; simp only [List.getElem?_toArray, List.getElem?_cons_zero] at s0; have hz3 : w1.heap.size < w3.heap.size := Nat.lt_of_lt_of_le hr1 HB3.out.size; clear hb hf3 hr3 hg3)
      have hLL : LL.length ≤ 3125 := by omega
      all_goals have HO3 := Lib.hid (OwnM.bel HOW.out HB3.out)
      all_goals have hs3 := HB3.out.size
      all_goals gi_wp2_with (gi_at_builtin; refine wpListIn_app6 rfl _ _ rfl (w1.heap.size + 1) v LL rfl (OwnM.bel HO3.out ((Below.refl _ _).alloc (Nat.le_refl _) _)) w3.heap.size 1 ((n : Int), g) rfl (halloc_at _ _ _ rfl) (by omega) (by simp; omega) ?_; intro v2 w4 ho hgr hat; obtain ⟨gE, cE, rfl⟩ := app_form6 ho; have hr4 := (hgr.block w1.heap.size (by simp; omega) (fun e => by have := (HO3.out.lt _ e.symm).1; omega)).trans ((halloc_lt _ _ _ hz3).trans HR3.out); have t0 := Joins.cell_of_block hr4 0; have hfr4 := Joins.unfrozen_of_block hr4 0; simp only [List.getElem?_toArray, List.getElem?_cons_zero] at t0; have HR4 := Lib.hid hr4; have HOE := Lib.hid ho; have HGR := Lib.hid hgr; have HAT := Lib.hid hat; clear ho hgr hat hr4)
      all_goals
        have hgr := HGR.out
        have hs4 := hgr.size
        simp only [World.size_alloc] at hs4
        have hat : (Value.slice (some ⟨gE, 0, none⟩) (LL.length + 1) cE).ownBlock = v.ownBlock ∨ (Value.slice (some ⟨gE, 0, none⟩) (LL.length + 1) cE).ownBlock = some (w3.heap.size + 1) := HAT.out.imp id fun h => h.trans (congrArg some (by simp))
        have hn0 : some w1.heap.size ≠ (Value.slice (some ⟨gE, 0, none⟩) (LL.length + 1) cE).ownBlock := fun e => by have := (HOE.out.lt _ e.symm).1; omega
        have hg3 : w4.grownBy (w4.setCell ⟨w1.heap.size, 0, none⟩ (.slice (some ⟨gE, 0, none⟩) (LL.length + 1) cE)) (some w1.heap.size) := grown_set9 _ _ _ _
        have hkeep : ∀ b, b < W.heap.size → b ≠ w1.heap.size → some b ≠ v.ownBlock → (w4.setCell ⟨w1.heap.size, 0, none⟩ (.slice (some ⟨gE, 0, none⟩) (LL.length + 1) cE)).heap[b]? = W.heap[b]? := fun b h1 h2 h4 =>
          (hset_ne _ _ _ _ h2).trans ((hgr.block b (by simp; omega) h4).trans ((halloc_lt _ _ _ (by omega)).trans (HB3.out.block b h1)))
        refine ⟨by simp; omega, fun b hb hbW => hkeep b hbW (HS.out b hb).1 (HS.out b hb).2.2.2.1, .slice (some ⟨gE, 0, none⟩) (LL.length + 1) cE, Joins.block_setCell HR4.out _, ?_, ?_, ?_, ?_, fun b hb => ?_⟩
        · rw [HST.out]
          exact ownM_kept6 HOE.out hg3 hn0
        · exact (hkeep _ hf1 (by omega) (fun e => by have := (HOW.out.lt _ e.symm).1; omega)).trans HFX.out
        · exact (hkeep _ hk1' (by omega) (fun e => by have := (HOW.out.lt _ e.symm).1; omega)).trans HKX.out
        · refine Below.setCell ?_ (show w.heap.size ≤ (⟨w1.heap.size, 0, none⟩ : Addr).block from by show w.heap.size ≤ w1.heap.size; omega) _
          have hb3 := HB.out.trans (HB3.out.mono HB.out.size)
          exact (hb3.alloc hb3.size _).grown hgr (hb3.alloc hb3.size _).size (fun r e => by have := (HO3.out.lt r e).1; omega)
        · obtain ⟨a1, a2, a3, a4, a5⟩ := HS.out b hb
          refine ⟨a1, a2, a3, fun e => ?_, by simp; omega⟩
          rcases hat with h | h
          · exact a4 (e.trans h)
          · have := e.trans h
            injection this with this
            omega
  case done =>
    rintro D S W hD ⟨v, hr, hown, hf, hk, hb, hS⟩ hDS hK
    have e0 := Joins.cell_of_block hr 0
    simp only [List.getElem?_toArray, List.getElem?_cons_zero] at e0
    have hr1 : w1.heap.size < W.heap.size := (Array.getElem?_eq_some_iff.1 hr).1
    have HB := Lib.hid hb
    have HK := Lib.hid hK
    have HOW := Lib.hid hown
    have HDV : Hid (some D ≠ v.ownBlock) := Lib.hid (hS D hDS).2.2.2.1
    have hsz := hb.size
    clear hr hf hk hb hS hK hown
    gi_wp2
    refine ⟨by simp, .inl ⟨_, _, rfl, run_takeDeferred HK.out, ?_⟩⟩
    refine ⟨_, by simp [results, Try.results90, go_sem], v, rfl, ?_, ?_⟩
    · exact Joins.ownsRow_le (ownM_kept6 HOW.out (grownBy_putObj' _ D _) HDV.out) (by omega)
    · exact HB.out.grown (grownBy_putObj' _ D _) hsz (fun k e => by cases e; omega)

end Go.Proofs.Ytfghegjlilcafaa
