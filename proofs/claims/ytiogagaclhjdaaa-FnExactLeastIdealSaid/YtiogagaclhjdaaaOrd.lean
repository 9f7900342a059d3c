/- The contracts of impl.products and of the iterator that it makes. The contract of impl.ordered: the maps that an iterator hands out, in order, each once. impl.ordered at the products of two lists, and (*monoid).idealOf. -/
import Derived.Test.YtiogagaclhjdaaaCnt
import Derived.Test.YtiogagaclhjdaaaIdl
import Derived.Test.YtiogagaclhjdaaaMhas
import Derived.Test.YtiogagaclhjdaaaMono
import Derived.Maps.OwnIn
import Derived.Test.YtiogagaclhjdaaaBck
namespace Go.Proofs.Ytiogagaclhjdaaa
open Go Go.RowKit
attribute [local go_sem] Oper.semAt_some

/-- The block of a row. -/
def blkO : Option Addr → List Nat
  | none => []
  | some x => [x.block]

theorem inRow_keep {w w' : World} {a : Option Addr} {L : List MapN} (h : InRowM w a L) (hk : ∀ b, b ∈ blkO a → w'.heap[b]? = w.heap[b]?) (hs : w.heap.size ≤ w'.heap.size) : InRowM w' a L := by
  rcases h with h0 | ⟨b, off, ha, hlt, hc⟩
  · exact Or.inl h0
  · refine Or.inr ⟨b, off, ha, Nat.lt_of_lt_of_le hlt hs, fun j hj => (hc j hj).block (hk b ?_)⟩
    rw [ha]; simp [blkO]

theorem inRow_lt {w : World} {a : Option Addr} {L : List MapN} (h : InRowM w a L) (h0 : L ≠ []) : ∀ b, b ∈ blkO a → b < w.heap.size := fun b hb => by
  rcases h with h1 | ⟨b2, off, ha, hlt, hc⟩
  · exact absurd h1 h0
  · rw [ha] at hb
    have : b = b2 := by simpa [blkO] using hb
    omega

theorem prods_len (p : Int) (B : List Nat) : ∀ A : List Nat, (prodsC p A B).length = A.length * B.length
  | [] => by simp [prodsC]
  | a :: A => by
    have ih := prods_len p B A
    unfold prodsC at *
    rw [List.flatMap_cons, List.length_append, List.length_map, ih, List.length_cons, Nat.succ_mul, Nat.add_comm]

theorem prods_at (p : Int) (B : List Nat) (j : Nat) (hj : j < B.length) : ∀ (A : List Nat) (i : Nat), i < A.length → (prodsC p A B).getD (i * B.length + j) 0 = mulC p (A.getD i 0) (B.getD j 0)
  | [], i, h => by simp at h
  | a :: A, 0, _ => by
    unfold prodsC
    rw [List.flatMap_cons, Nat.zero_mul, Nat.zero_add, List.getD_eq_getElem?_getD, List.getElem?_append_left (by rw [List.length_map]; exact hj), List.getElem?_map, List.getElem?_eq_getElem hj, List.getD_eq_getElem?_getD (l := B), List.getElem?_eq_getElem hj]
    rfl
  | a :: A, i + 1, h => by
    have ih := prods_at p B j hj A i (by simpa using h)
    unfold prodsC at *
    have e : (i + 1) * B.length + j = B.length + (i * B.length + j) := by rw [Nat.succ_mul]; omega
    rw [e, List.flatMap_cons, List.getD_eq_getElem?_getD, List.getElem?_append_right (by rw [List.length_map]; omega), List.length_map, Nat.add_sub_cancel_left, ← List.getD_eq_getElem?_getD, ih]
    rfl

theorem products_any (a1 a2 : Option Addr) (n1 n2 c1 c2 : Nat) (w : World) :
    Calls Try.prog 62 #[.slice a1 n1 c1, .slice a2 n2 c2] w fun e w' => e = .returned (.func (.func 90) #[] #[.pointer (some ⟨w.heap.size, 0, none⟩), .pointer (some ⟨w.heap.size + 1, 0, none⟩)]) ∧
      w' = (w.alloc (.cells #[.slice a1 n1 c1] 29)).alloc (.cells #[.slice a2 n2 c2] 29) := by
  go_enter Try.func62, Try.ntmps62
  go_wp2_with fail
  go_ret
  exact ⟨rfl, rfl⟩

theorem grown_of' {W W' : World} (h : Below W.heap.size W W') : W.grownBy W' none := ⟨h.os, h.tape, h.output, h.size, fun k hk _ => h.block k hk⟩

theorem prodC_any {p : Int} {a b : Nat} (ha : vld p a) (hb : vld p b) (w : World) :
    Calls Try.prog 68 #[mv p (dcd a), mv p (dcd b)] w fun e w' => e = .returned (mv p (dcd (mulC p a b))) ∧ Below w.heap.size w w' := by
  refine (product_any p (dcd a) (dcd b) ha.2 hb.2 w).mono ?_
  rintro e w' ⟨rfl, h⟩
  refine ⟨?_, h⟩
  unfold mv
  rw [mulC_cells ha hb]

set_option maxRecDepth 100000 in
set_option maxHeartbeats 2000000 in
theorem prods_counted {p : Int} {A B : List MapN} {E : List Nat} (hAl : A.length ≤ 1000) (hBl : B.length ≤ 1000)
    (hP : ∀ i j, i < A.length → j < B.length → ∀ z, Calls Try.prog 68 #[mv (A.getD i z0).1 (A.getD i z0).2, mv (B.getD j z0).1 (B.getD j z0).2] z fun e w' => e = .returned (mv p (dcd (E.getD (i * B.length + j) 0))) ∧ Below z.heap.size z w')
    (n : Nat) (hn : 1 ≤ n) (aA aB : Option Addr) (cA cB bl br : Nat) (w : World)
    (hbl : w.heap[bl]? = some (.cells #[.slice aA A.length cA] 29 (0, 0))) (hbr : w.heap[br]? = some (.cells #[.slice aB B.length cB] 29 (0, 0))) (hrA : InRowM w aA A) (hrB : InRowM w aB B) (hkA : ∀ b, b ∈ blkO aA → b < w.heap.size) (hkB : ∀ b, b ∈ blkO aB → b < w.heap.size) :
    Counted Fence.wide n Try.prog 90 #[.pointer (some ⟨bl, 0, none⟩), .pointer (some ⟨br, 0, none⟩)] (fun k => #[mv p (dcd (E.getD k 0))]) (bl :: br :: (blkO aA ++ blkO aB)) (A.length * B.length) w := fun l J S1 W hW hJ hJf hS hY h0 => by
  have hblt : bl < w.heap.size := (Array.getElem?_eq_some_iff.1 hbl).1
  have hbrt : br < w.heap.size := (Array.getElem?_eq_some_iff.1 hbr).1
  have hsW := hW.size
  have hblW : bl < W.heap.size := by omega
  have hbrW : br < W.heap.size := by omega
  have HBL := Lib.hid ((hW.block bl hblt).trans hbl)
  have HBR := Lib.hid ((hW.block br hbrt).trans hbr)
  have HRA := Lib.hid (hrA.below hW)
  have HRB := Lib.hid (hrB.below hW)
  have HKA : Hid (∀ b, b ∈ blkO aA → b < W.heap.size) := Lib.hid fun b hb => Nat.lt_of_lt_of_le (hkA b hb) hsW
  have HKB : Hid (∀ b, b ∈ blkO aB → b < W.heap.size) := Lib.hid fun b hb => Nat.lt_of_lt_of_le (hkB b hb) hsW
  have HP := Lib.hid hP
  have HJ := Lib.hid hJ
  have HJF := Lib.hid hJf
  have HS1 : Hid (bl ∈ S1 ∧ br ∈ S1 ∧ (∀ b, b ∈ blkO aA → b ∈ S1) ∧ ∀ b, b ∈ blkO aB → b ∈ S1) := Lib.hid ⟨hS _ (by simp), hS _ (by simp), fun b hb => hS _ (by simp [hb]), fun b hb => hS _ (by simp [hb])⟩
  have HY := Lib.hid hY
  have H0 := Lib.hid h0
  have x0 := Joins.cell_of_block HBL.out 0
  simp only [List.getElem?_toArray, List.getElem?_cons_zero] at x0
  clear hW hJ hJf hS hY h0 hbl hbr hrA hrB hP hkA hkB hblt hbrt
  refine callsIn_of_wp Try.func90 rfl trivial ?_ rfl
  simp only [Try.ntmps90, List.size_toArray, List.length_cons, List.length_nil, Nat.reduceAdd, Nat.reduceSub, Array.replicate_succ, Array.replicate_zero, List.push_toArray, List.append_toArray, List.nil_append, List.cons_append]
  gi_wp2
  gi_loopw [5, 7, 10, 16] (fun _ _ v _ wr => ∃ (i : Nat) (S : List Nat), i ≤ A.length ∧ v = .int .i64 i ∧ J (i * B.length) S wr ∧ (∀ b, b ∈ S1 → b ∈ S) ∧ W.heap.size ≤ wr.heap.size ∧ (∀ b, b ∈ S1 → b < W.heap.size → wr.heap[b]? = W.heap[b]?)) (fun _ _ v _ _ => A.length - (intOf v).toNat)
  case atStart => exact ⟨0, S1, by omega, rfl, by rw [Nat.zero_mul]; exact H0.out, fun _ h => h, Nat.le_refl _, fun _ _ _ => rfl⟩
  case round =>
    obtain ⟨i, S, hi, rfl, hJi, hSS, hsr, hkp⟩ := hrel
    have HSS := Lib.hid hSS
    have HKP := Lib.hid hkp
    have HJI := Lib.hid hJi
    have hrow := inRow_keep HRA.out (fun b hb => hkp b (HS1.out.2.2.1 b hb) (HKA.out b hb)) hsr
    clear hSS hkp hJi x0
    by_cases hil : i < A.length
    · have hil' : (i : Int) < (A.length : Int) := by omega
      obtain ⟨b1, o1, rfl, hl1, hat1⟩ := hrow.at6 i hil
      obtain ⟨y0, y1, y2, y3, y4, y5⟩ := hat1
      have HPI := Lib.hid fun j hj => HP.out i j hil hj
      have zr0 := (Joins.cell_of_block ((HKP.out br HS1.out.2.1 hbrW).trans HBR.out) 0)
      simp only [List.getElem?_toArray, List.getElem?_cons_zero] at zr0
      have hbrr : br < wr.heap.size := by omega
      generalize (A.getD i z0).1 = q1 at *
      generalize (A.getD i z0).2 = s1 at *
      gi_wp2
      obtain ⟨wo, hwo⟩ : ∃ wo, wo = wr := ⟨_, rfl⟩
      subst hwo
      obtain ⟨wa, hwa⟩ : ∃ wa, wa = wo.alloc (.cells (mcells q1 s1) 31) := ⟨_, rfl⟩
      have hwa0 := hwa
      simp only [mcells] at hwa
      rw [← hwa]
      have hga : wo.grownBy wa none := by rw [hwa0]; exact World.grownBy_alloc _ _ _
      have hsa : wa.heap.size = wo.heap.size + 1 := by rw [hwa0]; simp
      have hba : wa.heap[wo.heap.size]? = some (.cells (mcells q1 s1) 31 (0, 0)) := by rw [hwa0]; exact halloc_at _ _ _ rfl
      clear hwa hwa0
      have HJ1 : Hid (J (i * B.length) (wo.heap.size :: S) wa) := Lib.hid (HJF.out _ _ _ _ _ HJI.out hga (Nat.le_refl _) (by omega))
      gi_loopw [7, 16] (fun _ v wr => ∃ (j : Nat) (S : List Nat), j ≤ B.length ∧ v = .int .i64 j ∧ J (i * B.length + j) S wr ∧ (∀ b, b ∈ S1 → b ∈ S) ∧ wo.heap.size ∈ S ∧ wo.heap.size < wr.heap.size ∧ (∀ b, b ∈ S1 → b < W.heap.size → wr.heap[b]? = W.heap[b]?) ∧ wr.heap[wo.heap.size]? = some (.cells (mcells q1 s1) 31 (0, 0))) (fun _ v _ => B.length - (intOf v).toNat)
      case atStart => exact ⟨0, _, by omega, rfl, HJ1.out, fun b hb => List.mem_cons_of_mem _ (HSS.out b hb), by simp, by omega, fun b hb hbW => (hga.block b (by omega) (fun e => by cases e)).trans (HKP.out b hb hbW), hba⟩
      case round =>
        clear y0 y1 y2 y3 y4 y5 zr0
        obtain ⟨j, S2, hj, rfl, hJj, hSS2, hm2, hsz2, hkp2, hb5⟩ := hrel
        have HSS2 := Lib.hid hSS2
        have HKP2 := Lib.hid hkp2
        have HJJ := Lib.hid hJj
        have HB5 := Lib.hid hb5
        have HM2 := Lib.hid hm2
        have hrow2 := inRow_keep HRB.out (fun b hb => hkp2 b (HS1.out.2.2.2 b hb) (HKB.out b hb)) (by omega)
        clear hSS2 hkp2 hJj hb5 hm2
        by_cases hjl : j < B.length
        · have hjl' : (j : Int) < (B.length : Int) := by omega
          obtain ⟨b2, o2, rfl, hl2, hat2⟩ := hrow2.at6 j hjl
          obtain ⟨t0, t1, t2, t3, t4, t5⟩ := hat2
          have HPJ := Lib.hid (HPI.out j hjl)
          obtain ⟨y0, y1, y2, y3, y4, y5⟩ := blk6 HB5.out
          generalize (B.getD j z0).1 = q2 at *
          generalize (B.getD j z0).2 = s2 at *
          have hPJ := HPJ.out
          generalize hec : E.getD (i * B.length + j) 0 = c at *
          simp only [mv, mcells] at hPJ
          have HPJ := Lib.hid hPJ
          clear hPJ
          have hij : i * B.length + j < A.length * B.length := Nat.lt_of_lt_of_le (Nat.add_lt_add_left hjl _) (by rw [← Nat.succ_mul]; exact Nat.mul_le_mul_right _ hil)
          gi_wp2_with (refine ⟨trivial, ?_⟩; gi_at_call 68; refine (callsIn_wide.2 (HPJ.out _)).mono ?_; rintro e w3 ⟨rfl, hb3⟩; have hb4 := ((Below.refl wr.heap.size wr).alloc (Nat.le_refl _) (.cells (mcells q2 s2) 31)).trans (hb3.mono (by simp)); have HB4 := Lib.hid hb4; have hz4 := hb4.size; obtain ⟨fn, tm, asg, bdy, hy, hR⟩ := HY.out (i * B.length + j) S2 w3 hij (HJ.out.grown HJJ.out (grown_of' hb4)); (try rw [hec] at hy); simp only [mv, mcells] at hy; have HR := Lib.hid hR; clear hb3 hb4 hR)
          refine HR.out.mono ?_
          rintro e V ⟨rfl, hJ1, hzV, hkV⟩
          have HJ1 := Lib.hid hJ1
          have HKV := Lib.hid hkV
          clear hy hJ1 hkV t0 t1 t2 t3 t4 t5 y0 y1 y2 y3 y4 y5
          gi_wp2
          go_roundw
          case rel =>
            refine ⟨j + 1, S2, by omega, by go_num, HJ1.out, HSS2.out, HM2.out, by omega, fun b hb hbW => ?_, ?_⟩
            · have h1 := HKP2.out b hb hbW
              exact (HKV.out b (HSS2.out b hb) (by omega)).trans ((HB4.out.block b (by omega)).trans h1)
            · exact (HKV.out _ HM2.out (by omega)).trans ((HB4.out.block _ (by omega)).trans HB5.out)
          case measure => simp [intOf]; omega
        · obtain rfl : j = B.length := by omega
          gi_wp2
          go_roundw
          case rel => exact ⟨i + 1, S2, by omega, by go_num, by rw [Nat.succ_mul]; exact HJJ.out, HSS2.out, by omega, HKP2.out⟩
          case measure => simp [intOf]; omega
    · obtain rfl : i = A.length := by omega
      gi_wp2
      go_end0
      exact ⟨⟨_, rfl⟩, _, HJI.out⟩

end Go.Proofs.Ytiogagaclhjdaaa

namespace Go.Proofs.Ytiogagaclhjdaaa
open Go Go.RowKit Go.Maps
attribute [local go_sem] Oper.semAt_some

/-- The numbers of a list, each once, as they come. -/
def ddp (E : List Nat) : List Nat := E.foldl (fun F c => if c ∈ F then F else F ++ [c]) []

theorem ddp_app (E : List Nat) (c : Nat) : ddp (E ++ [c]) = if c ∈ ddp E then ddp E else ddp E ++ [c] := by unfold ddp; rw [List.foldl_append]; rfl

theorem ddp_facts : ∀ (n : Nat) (E : List Nat), E.length = n → (ddp E).Nodup ∧ ∀ x, x ∈ ddp E ↔ x ∈ E
  | 0, E, h => by
    have : E = [] := List.length_eq_zero_iff.1 h
    subst this
    exact ⟨List.nodup_nil, fun x => Iff.rfl⟩
  | n + 1, E, h => by
    have h0 : E ≠ [] := fun e => by rw [e] at h; simp at h
    obtain ⟨F, c, rfl⟩ : ∃ F c, E = F ++ [c] := ⟨_, _, (List.dropLast_concat_getLast h0).symm⟩
    obtain ⟨i1, i2⟩ := ddp_facts n F (by simpa using h)
    rw [ddp_app]
    by_cases hc : c ∈ ddp F
    · rw [if_pos hc]
      refine ⟨i1, fun x => ?_⟩
      rw [i2, List.mem_append, List.mem_singleton]
      refine ⟨Or.inl, fun hx => ?_⟩
      rcases hx with hx | rfl
      · exact hx
      · exact (i2 x).1 hc
    · rw [if_neg hc]
      refine ⟨List.nodup_append.2 ⟨i1, by simp, fun a ha b hb e => hc (by rw [List.mem_singleton] at hb; rw [← hb, ← e]; exact ha)⟩, fun x => ?_⟩
      rw [List.mem_append, List.mem_append, i2]

theorem ddp_nodup (E : List Nat) : (ddp E).Nodup := (ddp_facts _ E rfl).1
theorem ddp_mem (E : List Nat) (x : Nat) : x ∈ ddp E ↔ x ∈ E := (ddp_facts _ E rfl).2 x
theorem ddp_srt (E : List Nat) : srtE (ddp E) = srtE E := srt_unique (srtE_srt _) (srtE_srt _) fun x => by rw [srtE_mem, srtE_mem, ddp_mem]

/-- The map of bools that holds these maps. -/
def MapB (w : World) (p : Int) (b : Nat) (F : List Nat) : Prop := w.ownsMap Try.prog 31 valR b F.length (wD p (F.reverse.map fun c => (c, Value.bool true))) ∧ ∀ x ∈ F, vld p x

theorem wD_none {p : Int} {c : Nat} (hc : vld p c) (z : DataW Value) : ∀ {l : List (Nat × Value)}, (∀ x ∈ l, vld p x.1) → c ∉ l.map Prod.fst → (wD p l).atKey (kyL p (dcd c)) z = z
  | [], _, _ => rfl
  | (a, v) :: l, h, hm => by
    show ((wD p l).put _ _).atKey _ _ = _
    have hl := fun x hx => h x (List.mem_cons_of_mem (a, v) hx)
    have ha := h (a, v) (by simp)
    rw [List.map_cons, List.mem_cons, not_or] at hm
    rw [atKey_put_other (ky_num hc ha hm.1)]
    exact wD_none hc z hl hm.2

theorem mapB_kept {w w' : World} {p : Int} {b : Nat} {F : List Nat} {row : Option Nat} (h : MapB w p b F) (hg : w.grownBy w' row) (hne : some b ≠ row) : MapB w' p b F := ⟨h.1.kept hg hne, h.2⟩

theorem mapB_made (w : World) (p : Int) (n : Nat) (h : w.heap.size = n) : MapB (w.alloc (.map #[] 0)) p n [] := by
  subst h; exact ⟨World.ownsMap_made _ _ _ _, fun x hx => by cases hx⟩

set_option maxRecDepth 100000 in
theorem look_set {w : World} {p : Int} {b c : Nat} {F : List Nat} (h : MapB w p b F) (hnd : F.Nodup) (hc : vld p c) :
    ∀ x : World, x.heap = w.heap → (Instr.lookup 77 (.map (some b)) (mv p (dcd c)) false).run Try.prog x = .ok (.bool (decide (c ∈ F))) x := fun x hx => by
  have hown : x.ownsMap Try.prog 31 valR b F.length (wD p (F.reverse.map fun c => (c, Value.bool true))) := by
    obtain ⟨es, clock, hb, F, hs, hD⟩ := h.1
    exact ⟨es, clock, by rw [hx]; exact hb, F, hs, hD⟩
  have hz : (zeroValue 4).run Try.prog x = .ok (.bool false) x := by kernel_rfl
  obtain ⟨v, ps, hr, hv⟩ := hown.lookup lawM Try.underlying77 hz (zd := .held (.bool false)) (zp := []) rfl (key_of hc.2)
  have hvl : ∀ y ∈ F.reverse.map (fun c => (c, Value.bool true)), vld p y.1 := fun y hy => by
    obtain ⟨c, hcm, rfl⟩ := List.mem_map.1 hy
    exact h.2 c (List.mem_reverse.1 hcm)
  have e1 := valR_inv hv
  have hfst : (F.reverse.map fun c => (c, Value.bool true)).map Prod.fst = F.reverse := by rw [List.map_map]; exact List.map_id _
  by_cases hm : c ∈ F
  · rw [wD_at hc _ hvl (by rw [hfst]; exact (List.reverse_perm F).nodup_iff.2 hnd) (List.mem_map.2 ⟨c, List.mem_reverse.2 hm, rfl⟩)] at e1
    injection e1 with e1
    rw [hr, ← e1, decide_eq_true hm]
  · rw [wD_none hc _ hvl (by rw [hfst]; exact fun h => hm (List.mem_reverse.1 h))] at e1
    injection e1 with e1
    rw [hr, ← e1, decide_eq_false hm]

theorem mapB_put {w : World} {p : Int} {b c : Nat} {F : List Nat} (hF : ∀ x ∈ F, vld p x) (hc : vld p c) (h : w.ownsMap Try.prog 31 valR b (F.length + 1) ((wD p (F.reverse.map fun c => (c, Value.bool true))).put (kyL p (dcd c)) (.held (.bool true)))) : MapB w p b (F ++ [c]) := by
  refine ⟨?_, fun x hx => ?_⟩
  · rw [List.reverse_append, List.length_append]
    exact h
  · rcases List.mem_append.1 hx with hx | hx
    · exact hF x hx
    · rw [List.mem_singleton.1 hx]; exact hc

/-- append of one map onto a list of maps of the call's own, in a fence. -/
theorem wpListIn_appM {F : Fence} {nF : Nat} {w : World} {ops : Array Oper} {rest : List Oper} {o : Oper} {ac : Act} {Q : Exit → Act → World → Prop} (hgd : o.guard = none) (s x : Operand)
    (ho : o.op = .call { callee := .builtin .append, args := #[s, x], argTypes := #[29, 29] })
    (base : Nat) (v : Value) (M : List MapN) (hs : ac.eval s = v) (hown : OwnM w base v M)
    (b off c : Nat) (L : List MapN) (hx : ac.eval x = .slice (some ⟨b, off, none⟩) L.length c) (hr : ∀ j, j < L.length → AtM w b off j (L.getD j z0))
    (hlen : M.length + L.length ≤ 2000000) (hbase : base ≤ w.heap.size)
    (h : ∀ v' w', OwnM w' base v' (M ++ L) → w.grownBy w' v.ownBlock → (v'.ownBlock = v.ownBlock ∨ v'.ownBlock = some w.heap.size) → wpListIn F nF Try.prog ops Q rest (ac.put o.dst v') w') : wpListIn F nF Try.prog ops Q (o :: rest) ac w := by
  obtain ⟨i0, hi, hz0, hz1, hz2⟩ := info_parts info_map
  refine wpListIn_append_own_at w hgd s x _ ho base 31 i0 _ 6 48 Try.underlying29 hi hz0 hz1 hz2 rfl (by decide) v M.length (mcels M) hs hown ⟨b, off, none⟩ L.length c (mcels L) hx (mcels_len L) (rowM_cells hr) (mcels_one L) (by unfold maxLen; omega) (by omega) hbase ?_
  intro v' w' h1 h2 _ h4
  refine h v' w' ?_ h2 h4
  unfold OwnM
  rw [mcels_app, List.length_append]
  exact h1

theorem hown_kept {w w' : World} {base b : Nat} {v : Value} {L : List MapN} (h : OwnM w base v L) (hg : w.grownBy w' (some b)) (hb : some b ≠ v.ownBlock) : OwnM w' base v L := h.kept hg (Or.inr fun e => hb e.symm)

/-- What holds between two rounds. -/
def OrdI (p : Int) (E : List Nat) (w : World) (k : Nat) (S : List Nat) (W : World) : Prop :=
  ∃ v, W.heap[w.heap.size]? = some (.cells #[v] 29 (0, 0)) ∧ OwnM W w.heap.size v (mE p (ddp (E.take k))) ∧ (ddp (E.take k) = [] → v = .slice none 0 0) ∧ MapB W p (w.heap.size + 1) (ddp (E.take k)) ∧
    W.heap[w.heap.size + 1 + 1]? = some (.cells #[.map (some (w.heap.size + 1))] 77 (0, 0)) ∧ Below w.heap.size w W ∧ (∀ b, b ∈ S → b ≠ w.heap.size ∧ b ≠ w.heap.size + 1 ∧ b ≠ w.heap.size + 1 + 1 ∧ some b ≠ v.ownBlock ∧ b < W.heap.size)

theorem ordI_abs (p : Int) (E : List Nat) (w : World) (B : Nat) (hB : w.heap.size + 1 + 1 < B) : Abs B (OrdI p E w) := by
  rintro k S X Y row ⟨v, h1, h2, h3, h4, h5, h6, h7⟩ hg hr
  refine ⟨v, (hg.block _ (Array.getElem?_eq_some_iff.1 h1).1 (fun e => (h7 _ (hr _ e.symm).2).1 rfl)).trans h1, h2.kept hg ?_, h3, mapB_kept h4 hg (fun e => (h7 _ (hr _ e.symm).2).2.1 rfl), (hg.block _ (Array.getElem?_eq_some_iff.1 h5).1 (fun e => (h7 _ (hr _ e.symm).2).2.2.1 rfl)).trans h5, h6.grown hg h6.size (fun r e => Nat.le_trans (by omega) (hr r e).1), fun b hb => ?_⟩
  · by_cases e : v.ownBlock = row
    · cases row with
      | none => exact Or.inl e
      | some r => exact absurd e.symm (h7 r (hr r rfl).2).2.2.2.1
    · exact Or.inr e
  · obtain ⟨a1, a2, a3, a4, a5⟩ := h7 b hb
    exact ⟨a1, a2, a3, a4, Nat.lt_of_lt_of_le a5 hg.size⟩

theorem ordI_fresh (p : Int) (E : List Nat) (w : World) : Fresh (OrdI p E w) := by
  rintro k S X Y b ⟨v, h1, h2, h3, h4, h5, h6, h7⟩ hg hb hbY
  have l1 := (Array.getElem?_eq_some_iff.1 h1).1
  have l5 := (Array.getElem?_eq_some_iff.1 h5).1
  refine ⟨v, (hg.block _ l1 (fun e => by cases e)).trans h1, h2.kept hg ?_, h3, mapB_kept h4 hg (fun e => by cases e), (hg.block _ l5 (fun e => by cases e)).trans h5, h6.grown hg h6.size (fun r e => by cases e), fun c hc => ?_⟩
  · cases e : v.ownBlock with
    | none => exact Or.inl rfl
    | some r => exact Or.inr (fun e => by cases e)
  · rcases List.mem_cons.1 hc with rfl | hc
    · refine ⟨by omega, by omega, by omega, fun e => ?_, hbY⟩
      have := (h2.lt c e.symm).2
      omega
    · obtain ⟨a1, a2, a3, a4, a5⟩ := h7 c hc
      exact ⟨a1, a2, a3, a4, Nat.lt_of_lt_of_le a5 hg.size⟩

/-- What the call leaves: nothing, or a list of its own. -/
def RetOrd (p : Int) (K : List Nat) (w : World) (e : Ending) (w' : World) : Prop :=
  Below w.heap.size w w' ∧ ((K = [] ∧ e = .returned (.slice none 0 0)) ∨ (K ≠ [] ∧ ∃ g cap, e = .returned (.slice (some ⟨g, 0, none⟩) K.length cap) ∧ PutRow w' w.heap.size g cap (mE p K)))

set_option maxRecDepth 100000 in
set_option maxHeartbeats 2000000 in
theorem ordered_any {p : Int} {E U : List Nat} (hE : ∀ c ∈ E, vld p c) (hU : U.length ≤ 300) (hEU : ∀ c ∈ E, c ∈ U) (gf : Nat) (lb : Array Value) (S0 : List Nat) (hgf : ∀ args w, (callFunc gf args).run Try.prog w = .ok (.enter gf args) w) (w : World) (hS0 : ∀ b, b ∈ S0 → b < w.heap.size)
    (hC : ∀ n, 1 ≤ n → Counted Fence.wide n Try.prog gf lb (fun k => #[mv p (dcd (E.getD k 0))]) S0 E.length w) :
    Calls Try.prog 61 #[.func (.func gf) #[] lb] w (RetOrd p (srtE E) w) := by
  refine (callsIn_wide (n := 5)).1 ?_
  refine callsIn_of_wp_marks Try.func61 rfl trivial ?_ rfl
  simp only [Try.ntmps61, List.size_toArray, List.length_cons, List.length_nil, Nat.reduceAdd, Nat.reduceSub, Array.replicate_succ, Array.replicate_zero, List.push_toArray, List.append_toArray, List.nil_append, List.cons_append]
  have hmm := @run_makeMap Try.prog
  gi_wp2
  clear hmm
  have HC := Lib.hid hC
  have HVL := Lib.hid hE
  have HEU := Lib.hid hEU
  have HS0 := Lib.hid hS0
  clear hC hE hEU hS0
  have hbz : Below w.heap.size w (((w.alloc (.cells #[.slice none 0 0] 29)).alloc (.map #[] 0)).alloc (.cells #[.map (some (w.heap.size + 1))] 77)) := by (repeat' (first | (with_reducible exact Below.refl _ _) | (with_reducible refine Below.alloc ?_ ?_ _) | (with_reducible refine Below.setCell ?_ ?_ _) | (with_reducible refine Below.drew ?_) | (with_reducible refine below_drewN ?_ _) | (with_reducible refine Below.trans ?_ (Below.mono (Hid.out (by assumption)) ?_)) | omega | (simp; done) | (simp; omega)))
  refine range_counted rfl (by omega) (gf := gf) (lb := lb) rfl trivial hgf (encs := fun k => #[mv p (dcd (E.getD k 0))]) (S0 := S0) (N := E.length) (HC.out _ (by omega)) hbz (fun _ => rfl)
    (OrdI p E w) (ordI_abs p E w _ (by simp)) (ordI_fresh p E w) ?start
    (fun k a' W => ∃ Bx, w.heap.size + 1 + 1 < Bx ∧ W.heap[Bx]? = some (.cells (mcells p (dcd (E.getD k 0))) 31 (0, 0)) ∧
      a' = { tmps := #[.func (.func gf) #[] lb, undef, .slice none 0 0, .pointer (some ⟨w.heap.size, 0, none⟩), .pointer (some ⟨w.heap.size + 1 + 1, 0, none⟩), .pointer (some ⟨Bx, 0, none⟩), .map (some (w.heap.size + 1)), .func (.func gf) #[] lb, mv p (dcd (E.getD k 0)),
        undef, undef, undef, undef, undef, undef, undef, undef, undef, undef, undef, undef, undef], defers := [] })
    ?hax ?assign ?body ?done
  case start =>
    refine ⟨.slice none 0 0, ?_, ?_, fun _ => rfl, ?_, ?_, hbz, fun b hb => ?_⟩
    · (repeat' (first | omega | (rw [hdrew]) | (with_reducible assumption) | (with_reducible exact Hid.out (by assumption)) | (with_reducible rfl) | ((with_reducible refine halloc_at _ _ _ ?_) <;> (first | (with_reducible rfl) | omega | (simp; done))) | (with_reducible refine chain6 ?_) | (with_reducible refine Eq.trans (hset_ne _ _ _ _ ?_) ?_) | (with_reducible refine Eq.trans (halloc_lt _ _ _ ?_) ?_) | (with_reducible refine Eq.trans (Below.block (Hid.out (by assumption)) _ ?_) ?_) | (simp; done) | (simp; omega)))
    · exact ⟨by simp [mcels_nil, mE, ddp], Or.inl ⟨rfl, by simp [mE, ddp]⟩⟩
    · exact mapB_kept (row := none) (mapB_made _ p (w.heap.size + 1) (by simp)) (World.grownBy_alloc _ _ _) (fun e => by cases e)
    · (repeat' (first | omega | (rw [hdrew]) | (with_reducible assumption) | (with_reducible exact Hid.out (by assumption)) | (with_reducible rfl) | ((with_reducible refine halloc_at _ _ _ ?_) <;> (first | (with_reducible rfl) | omega | (simp; done))) | (with_reducible refine chain6 ?_) | (with_reducible refine Eq.trans (hset_ne _ _ _ _ ?_) ?_) | (with_reducible refine Eq.trans (halloc_lt _ _ _ ?_) ?_) | (with_reducible refine Eq.trans (Below.block (Hid.out (by assumption)) _ ?_) ?_) | (simp; done) | (simp; omega)))
    · have := HS0.out b hb
      refine ⟨by omega, by omega, by omega, (fun e => by cases e), by simp; omega⟩
  case hax =>
    rintro k a' _ X Y row ⟨Bx, h1, h2, h3⟩ hg hr
    exact ⟨Bx, h1, (hg.block Bx (Array.getElem?_eq_some_iff.1 h2).1 (fun e => by obtain ⟨_, o, ho, hc⟩ := hr Bx e.symm; rw [h2] at ho; cases ho; cases hc)).trans h2, h3⟩
  case assign =>
    rintro l k S W Kx hk hi hlt hK
    have HK := Lib.hid hK
    clear hi hK
    simp only [World.size_alloc] at hlt
    generalize E.getD k 0 = c at *
    simp only [mv, mcells]
    gi_wp2
    refine HK.out _ _ ?_ ?_
    · exact World.grownBy_alloc _ _ _
    · exact ⟨W.heap.size, by omega, halloc_at _ _ _ rfl, rfl⟩
  case body =>
    rintro l k S a' W hk ⟨v, hf, hown, hnil, hmap, hmp, hb, hS⟩ ⟨Bx, hBx, cx, rfl⟩ hlt
    have hc := HVL.out _ (getD_mem hk)
    have HTK : Hid (ddp (E.take (k + 1)) = if E.getD k 0 ∈ ddp (E.take k) then ddp (E.take k) else ddp (E.take k) ++ [E.getD k 0]) := Lib.hid (by rw [take_app E k hk, ddp_app])
    have hlk := look_set hmap (ddp_nodup _) hc W rfl
    have hFl : (ddp (E.take k)).length ≤ 300 := Nat.le_trans (nodup_le (ddp_nodup _) (fun x hx => HEU.out x (List.mem_of_mem_take ((ddp_mem _ _).1 hx)))) hU
    have hnl : W.heap.size > w.heap.size + 1 + 1 := (Array.getElem?_eq_some_iff.1 hmp).1
    have hBl : Bx < W.heap.size := (Array.getElem?_eq_some_iff.1 cx).1
    have hmpn : some (w.heap.size + 1) ≠ v.ownBlock := fun e => by
      obtain ⟨es, clock, hbm, _⟩ := hmap.1
      rcases hown.2 with ⟨rfl, _⟩ | ⟨g2, cap, cur, rfl, _, hg2, _⟩
      · simp [Value.ownBlock] at e
      · have e' : w.heap.size + 1 = g2 := by simpa [Value.ownBlock] using e
        subst e'
        rw [hbm] at hg2; cases hg2
    have hn0 : some w.heap.size ≠ v.ownBlock := blk_apart (by decide) hf hown
    have hn2 : some (w.heap.size + 1 + 1) ≠ v.ownBlock := blk_apart (by decide) hmp hown
    have m0 := Joins.cell_of_block hmp 0
    obtain ⟨x0, x1, x2, x3, x4, x5⟩ := blk6 cx
    have HF := Lib.hid hf
    have HOWN := Lib.hid hown
    have HNIL := Lib.hid hnil
    have HMAP := Lib.hid hmap
    have HMP := Lib.hid hmp
    have HB := Lib.hid hb
    have HS := Lib.hid hS
    have HCX := Lib.hid cx
    have HC1 := Lib.hid hc
    have HKEY := Lib.hid (key_of hc.2)
    simp only [World.size_alloc] at hlt
    simp only [List.getElem?_toArray, List.getElem?_cons_zero] at m0
    clear hf hown hnil hmap hmp hb hS cx hc
    unfold OrdI
    generalize hFF : ddp (E.take k) = F at *
    generalize ddp (E.take (k + 1)) = F1 at *
    generalize E.getD k 0 = c at *
    simp only [mv, mcells] at *
    by_cases hm : c ∈ F
    · have e1 := HTK.out
      rw [if_pos hm] at e1
      subst e1
      rw [decide_eq_true hm] at hlk
      gi_wp2
      exact ⟨Nat.le_refl _, fun b _ _ => rfl, v, HF.out, HOWN.out, HNIL.out, HMAP.out, HMP.out, HB.out, HS.out⟩
    · have e1 := HTK.out
      rw [if_neg hm] at e1
      subst e1
      rw [decide_eq_false hm] at hlk
      have hF' : F.length < 301 := by omega
      gi_wp2_with (first
        | (gi_at_mapUpdate; refine wpListIn_mapUpdate_own _ rfl _ _ _ 77 rfl 31 4 lawM Try.underlying77 valR _ F.length _ rfl HMAP.out.1 (by unfold maxLen; omega) _ _ _ rfl rfl HKEY.out (.held (.bool true)) [] rfl ?_; intro w1 hmap1 hgr1; have hf1 := (hgr1.block w.heap.size (by omega) (fun e => by injection e with e; omega)).trans HF.out; have e0 := Joins.cell_of_block hf1 0; obtain ⟨y0, y1, y2, y3, y4, y5⟩ := blk6 ((hgr1.block Bx hBl (fun e => by injection e with e; omega)).trans HCX.out); simp only [List.getElem?_toArray, List.getElem?_cons_zero] at e0; have HMAP1 := Lib.hid (mapB_put HMAP.out.2 HC1.out hmap1); have HGR1 := Lib.hid hgr1; have hs1 := hgr1.size; have HF1 := Lib.hid hf1; have hBl1 : Bx < w1.heap.size := (by omega); have hn1 : w.heap.size < w1.heap.size := (by omega); have HO1 := Lib.hid (hown_kept HOWN.out hgr1 hmpn); clear hmap1 hgr1 hf1)
        | (gi_at_builtin; refine wpListIn_appM rfl _ _ rfl w.heap.size _ (mE p F) rfl (ownM_bel HO1.out ((Below.refl _ _).alloc (Nat.le_refl _) _)) _ 0 1 [(p, dcd c)] rfl (at_one (halloc_at _ _ _ rfl)) (by rw [mE_len]; simp; omega) (by simp; omega) ?_; intro v2 w2 hown2 hgr2 hat2; obtain ⟨gE, cE, eE⟩ := app_form hown2 (by omega); subst eE; have hf2 := (hgr2.block w.heap.size (by simp; omega) hn0).trans ((halloc_lt _ _ _ hn1).trans HF1.out); have z0 := Joins.cell_of_block hf2 0; have hfr := blk_free hf2; have HOWN2 := Lib.hid hown2; have HGR2 := Lib.hid hgr2; have HAT2 := Lib.hid hat2; have HF2 := Lib.hid hf2; clear hown2 hgr2 hat2 hf2))
      have hgr2 : (w1.alloc (.cells (mcells p (dcd c)) 31)).grownBy w2 v.ownBlock := HGR2.out
      have hat2 : (Value.slice (some ⟨gE, 0, none⟩) (F.length + 1) cE).ownBlock = v.ownBlock ∨ (Value.slice (some ⟨gE, 0, none⟩) (F.length + 1) cE).ownBlock = some (w1.heap.size + 1) := by
        rcases HAT2.out with h | h
        · exact Or.inl h
        · refine Or.inr (h.trans ?_)
          exact congrArg some (by simp)
      have hn3 : some w.heap.size ≠ (Value.slice (some ⟨gE, 0, none⟩) (F.length + 1) cE).ownBlock := blk_apart (by decide) HF2.out HOWN2.out
      have hs2 := hgr2.size
      simp only [World.size_alloc] at hs2
      have hg1 : w1.grownBy (w1.alloc (.cells (mcells p (dcd c)) 31)) none := World.grownBy_alloc _ _ _
      have hg3 : w2.grownBy (w2.setCell ⟨w.heap.size, 0, none⟩ (.slice (some ⟨gE, 0, none⟩) (F.length + 1) cE)) (some w.heap.size) := grownBy_setCell' _ _ _
      have hkeep : ∀ b, b < W.heap.size → b ≠ w.heap.size → b ≠ w.heap.size + 1 → some b ≠ v.ownBlock → (w2.setCell ⟨w.heap.size, 0, none⟩ (.slice (some ⟨gE, 0, none⟩) (F.length + 1) cE)).heap[b]? = W.heap[b]? := fun b h1 h2 h3 h4 => by
        refine (hset_ne _ _ _ _ h2).trans ((hgr2.block b (by simp; omega) h4).trans ((halloc_lt _ _ _ (by omega)).trans (HGR1.out.block b h1 (fun e => h3 (by injection e)))))
      refine ⟨by simp; omega, fun b hb hbW => hkeep b hbW (HS.out b hb).1 (HS.out b hb).2.1 (HS.out b hb).2.2.2.1, .slice (some ⟨gE, 0, none⟩) (F.length + 1) cE, ?_, ?_, fun e => absurd e (by simp), ?_, ?_, ?_, fun b hb => ?_⟩
      · exact Joins.block_setCell HF2.out _
      · rw [mE_app]
        exact hown_kept HOWN2.out hg3 hn3
      · refine mapB_kept (mapB_kept (mapB_kept HMAP1.out hg1 (fun e => by cases e)) hgr2 hmpn) hg3 (fun e => ?_)
        injection e with e
        omega
      · exact (hkeep _ hnl (by omega) (by omega) hn2).trans HMP.out
      · refine Below.setCell ?_ (show w.heap.size ≤ (⟨w.heap.size, 0, none⟩ : Addr).block from Nat.le_refl _) _
        have hb1 : Below w.heap.size w w1 := HB.out.grown HGR1.out HB.out.size (fun r e => by cases e; omega)
        exact (hb1.alloc hb1.size _).grown hgr2 (hb1.alloc hb1.size _).size (fun r e => (HO1.out.lt r e).1)
      · obtain ⟨a1, a2, a3, a4, a5⟩ := HS.out b hb
        refine ⟨a1, a2, a3, fun e => ?_, by simp; omega⟩
        rcases hat2 with h | h
        · exact a4 (e.trans h)
        · have := e.trans h
          injection this with this
          omega
  case done =>
    rintro D S W hD ⟨v, hf, hown, hnil, hmap, hmp, hb, hS⟩ hDS hK
    rw [List.take_length] at hown hnil
    have HSS := Lib.hid (ddp_srt E)
    simp only [World.size_alloc] at hD
    have hnd := ddp_nodup E
    have hvl : ∀ c ∈ ddp E, vld p c := fun c hc => HVL.out c ((ddp_mem E c).1 hc)
    have hFl : (ddp E).length ≤ 300 := Nat.le_trans (nodup_le hnd (fun x hx => HEU.out x ((ddp_mem _ _).1 hx))) hU
    have HF := Lib.hid hf
    have HB := Lib.hid hb
    have HK := Lib.hid hK
    have hsz := hb.size
    have e0 := Joins.cell_of_block hf 0
    simp only [List.getElem?_toArray, List.getElem?_cons_zero] at e0
    have hwl : w.heap.size < W.heap.size := (Array.getElem?_eq_some_iff.1 hf).1
    have HN0 : Hid (some w.heap.size ≠ v.ownBlock) := Lib.hid (blk_apart (by decide) hf hown)
    have HOW := Lib.hid hown
    have HVF := Lib.hid hvl
    have HND := Lib.hid hnd
    have HNIL := Lib.hid hnil
    clear hf hown hnil hmap hmp hb hS hK hnd hvl hDS
    generalize ddp E = F at *
    by_cases hF : F = []
    · subst hF
      have ev := HNIL.out rfl
      subst ev
      gi_wp2_with (refine ⟨trivial, ?_⟩; gi_at_call 79; refine (callsIn_wide.2 (sort_none _ _ _)).mono ?_; rintro e w1 ⟨rfl, rfl⟩)
      refine ⟨by simp, .inl ⟨_, _, rfl, run_takeDeferred HK.out, ?_⟩⟩
      refine ⟨_, by simp [results, Try.results61, go_sem]; rfl, ?_⟩
      rw [← HSS.out]
      exact ⟨HB.out.grown (grownBy_putObj' _ D _) hsz (fun k e => by cases e; omega), Or.inl ⟨rfl, rfl⟩⟩
    · obtain ⟨gE, cE, ev, hput⟩ := ownM_put HOW.out (by rw [mE_len]; omega) (fun e => hF (List.length_eq_zero_iff.1 (by rw [← mE_len p F, e]; rfl)))
      rw [mE_len] at ev
      subst ev
      have HSO := Lib.hid (sort_any HVF.out HND.out (by omega) hF W HOW.out)
      have hDg : D ≠ gE := fun e => by
        obtain ⟨cur, hc⟩ := hput.ty
        have := HK.out
        rw [e, hc] at this
        cases this
      have hgw : w.heap.size ≤ gE := hput.lo
      have hgn : w.heap.size ≠ gE := fun e => HN0.out (by rw [e]; rfl)
      clear hput
      gi_wp2_with (refine ⟨trivial, ?_⟩; gi_at_call 79; refine (callsIn_wide.2 HSO.out).mono ?_; rintro e w1 ⟨rfl, hput2, ht⟩; have HPUT := Lib.hid hput2; have HT := Lib.hid ht; have f0 := Joins.cell_of_block (ht.at_ HF.out hgn) 0; simp only [List.getElem?_toArray, List.getElem?_cons_zero] at f0; clear hput2 ht)
      refine ⟨by simp, .inl ⟨_, _, rfl, run_takeDeferred (HT.out.at_ HK.out hDg), ?_⟩⟩
      refine ⟨_, by simp [results, Try.results61, go_sem]; rfl, ?_⟩
      have hbl : Below w.heap.size w w1 := HB.out.grown (row := some gE) ⟨HT.out.os, HT.out.tape, HT.out.output, HT.out.size, fun k hk hn => HT.out.block k hk (fun e => hn (by rw [e]))⟩ hsz (fun r e => by cases e; exact hgw)
      rw [← HSS.out]
      refine ⟨hbl.grown (grownBy_putObj' _ D _) hbl.size (fun k e => by cases e; omega), Or.inr ⟨fun e => hF ?_, gE, cE, by rw [srtE_len _ HND.out], HPUT.out.block (World.putObj_heap_other (Ne.symm hDg))⟩⟩
      have := srtE_len F HND.out
      rw [e] at this
      exact List.length_eq_zero_iff.1 this.symm

end Go.Proofs.Ytiogagaclhjdaaa

namespace Go.Proofs.Ytiogagaclhjdaaa
open Go Go.RowKit

theorem ordG_any {p : Int} {E U : List Nat} (A B : List MapN) (hE : ∀ c ∈ E, vld p c) (hU : U.length ≤ 300) (hEU : ∀ c ∈ E, c ∈ U) (hlen : A.length * B.length = E.length) (hAl : A.length ≤ 1000) (hBl : B.length ≤ 1000)
    (hP : ∀ i j, i < A.length → j < B.length → ∀ z, Calls Try.prog 68 #[mv (A.getD i z0).1 (A.getD i z0).2, mv (B.getD j z0).1 (B.getD j z0).2] z fun e w' => e = .returned (mv p (dcd (E.getD (i * B.length + j) 0))) ∧ Below z.heap.size z w')
    (aA aB : Option Addr) (cA cB bl br : Nat) (w : World)
    (hbl : w.heap[bl]? = some (.cells #[.slice aA A.length cA] 29 (0, 0))) (hbr : w.heap[br]? = some (.cells #[.slice aB B.length cB] 29 (0, 0))) (hrA : InRowM w aA A) (hrB : InRowM w aB B) (hkA : ∀ b, b ∈ blkO aA → b < w.heap.size) (hkB : ∀ b, b ∈ blkO aB → b < w.heap.size) :
    Calls Try.prog 61 #[.func (.func 90) #[] #[.pointer (some ⟨bl, 0, none⟩), .pointer (some ⟨br, 0, none⟩)]] w (RetOrd p (srtE E) w) := by
  refine ordered_any hE hU hEU 90 _ (bl :: br :: (blkO aA ++ blkO aB)) (enters_of Try.func90 (by kernel_rfl) rfl) w (fun b hb => ?_) (fun n hn => ?_)
  · rcases List.mem_cons.1 hb with rfl | hb
    · exact (Array.getElem?_eq_some_iff.1 hbl).1
    rcases List.mem_cons.1 hb with rfl | hb
    · exact (Array.getElem?_eq_some_iff.1 hbr).1
    rcases List.mem_append.1 hb with hb | hb
    · exact hkA b hb
    · exact hkB b hb
  · rw [← hlen]
    exact prods_counted hAl hBl hP n hn aA aB cA cB bl br w hbl hbr hrA hrB hkA hkB

theorem RetOrd.row {p : Int} {K : List Nat} {w w' : World} {e : Ending} (h : RetOrd p K w e w') (hK : K.length ≤ 1000) :
    ∃ a cap, e = .returned (.slice a K.length cap) ∧ (RdM w' w.heap.size a (mE p K) ∧ ∀ b, b ∈ blkO a → b < w'.heap.size) ∧ Below w.heap.size w w' := by
  obtain ⟨hb, ⟨rfl, rfl⟩ | ⟨_, g, cap, rfl, hp⟩⟩ := h
  · exact ⟨none, 0, rfl, ⟨⟨by simp [mE], Or.inl rfl⟩, fun b hb => by cases hb⟩, hb⟩
  · exact ⟨_, cap, rfl, ⟨hp.rd (by rw [mE_len]; omega), fun b hb => by
      have : b = g := by simpa [blkO] using hb
      rw [this]; exact hp.hi⟩, hb⟩

theorem ordP_any {p : Int} {K A B : List Nat} (hmon : Mon p K) (hA : ∀ a ∈ A, a ∈ K) (hB : ∀ b ∈ B, b ∈ K) (hAl : A.length ≤ 300) (hBl : B.length ≤ 300) (aA aB : Option Addr) (cA cB bl br : Nat) (w : World)
    (hbl : w.heap[bl]? = some (.cells #[.slice aA A.length cA] 29 (0, 0))) (hbr : w.heap[br]? = some (.cells #[.slice aB B.length cB] 29 (0, 0))) (hrA : InRowM w aA (mE p A)) (hrB : InRowM w aB (mE p B)) (hkA : ∀ b, b ∈ blkO aA → b < w.heap.size) (hkB : ∀ b, b ∈ blkO aB → b < w.heap.size) :
    Calls Try.prog 61 #[.func (.func 90) #[] #[.pointer (some ⟨bl, 0, none⟩), .pointer (some ⟨br, 0, none⟩)]] w
      fun e w' => ∃ a cap, e = .returned (.slice a (ordC p A B).length cap) ∧ (RdM w' w.heap.size a (mE p (ordC p A B)) ∧ ∀ b, b ∈ blkO a → b < w'.heap.size) ∧ Below w.heap.size w w' := by
  have hpr := hmon.prods hA hB
  refine (ordG_any (p := p) (E := prodsC p A B) (U := K) (mE p A) (mE p B) (fun c hc => hmon.vl c (hpr c hc)) hmon.le hpr (by rw [mE_len, mE_len, prods_len]) (by rw [mE_len]; omega) (by rw [mE_len]; omega) (fun i j hi hj z => ?_) aA aB cA cB bl br w (by rw [mE_len]; exact hbl) (by rw [mE_len]; exact hbr) hrA hrB hkA hkB).mono fun e w' h => h.row ?_
  · rw [mE_len] at hi hj
    rw [mE_at p A i hi, mE_at p B j hj, mE_len, prods_at p B j hj A i hi]
    exact prodN_any (hmon.vl _ (hA _ (getD_mem hi))) (hmon.vl _ (hB _ (getD_mem hj))) z
  · exact Nat.le_trans (hmon.len (srtE_srt _) (hmon.ord hA hB)) (by omega)

theorem ordN_any (A B : List MapN) (hlen : A.length * B.length = 0) (hAl : A.length ≤ 1000) (hBl : B.length ≤ 1000) (aA aB : Option Addr) (cA cB bl br : Nat) (w : World)
    (hbl : w.heap[bl]? = some (.cells #[.slice aA A.length cA] 29 (0, 0))) (hbr : w.heap[br]? = some (.cells #[.slice aB B.length cB] 29 (0, 0))) (hrA : InRowM w aA A) (hrB : InRowM w aB B) (hkA : ∀ b, b ∈ blkO aA → b < w.heap.size) (hkB : ∀ b, b ∈ blkO aB → b < w.heap.size) :
    Calls Try.prog 61 #[.func (.func 90) #[] #[.pointer (some ⟨bl, 0, none⟩), .pointer (some ⟨br, 0, none⟩)]] w
      fun e w' => ∃ a cap, e = .returned (.slice a 0 cap) ∧ (RdM w' w.heap.size a [] ∧ ∀ b, b ∈ blkO a → b < w'.heap.size) ∧ Below w.heap.size w w' := by
  refine (ordG_any (p := 0) (E := []) (U := []) A B (fun c hc => by cases hc) (by simp) (fun c hc => by cases hc) hlen hAl hBl (fun i j hi hj z => ?_) aA aB cA cB bl br w hbl hbr hrA hrB hkA hkB).mono fun e w' h => h.row (by simp [srtE])
  have : 0 < A.length * B.length := Nat.mul_pos (by omega) (by omega)
  omega

theorem one_blk {b : Nat} {w : World} (h : b < w.heap.size) : ∀ x, x ∈ blkO (some ⟨b, 0, none⟩) → x < w.heap.size := fun x hx => by
  have : x = b := by simpa [blkO] using hx
  omega

set_option maxRecDepth 100000 in
set_option maxHeartbeats 2000000 in
theorem iidlG_any (LF M : List MapN) (q : Int) (s : Nat → Int) (b n cE : Nat) (aE : Option Addr) (mo : Option Nat) (w : World) (hm : w.heap[b]? = some (.cells #[.slice aE n cE, .map mo] 48 (0, 0)))
    (h1 : ∀ z bl br fb, Below w.heap.size w z → z.heap[fb]? = some (.cells (mcells q s) 31 (0, 0)) → z.heap[bl]? = some (.cells #[.slice aE n cE] 29 (0, 0)) → z.heap[br]? = some (.cells #[.slice (some ⟨fb, 0, none⟩) 1 1] 29 (0, 0)) →
      Calls Try.prog 61 #[.func (.func 90) #[] #[.pointer (some ⟨bl, 0, none⟩), .pointer (some ⟨br, 0, none⟩)]] z
        fun e w' => ∃ a cap, e = .returned (.slice a LF.length cap) ∧ (InRowM w' a LF ∧ ∀ b, b ∈ blkO a → b < w'.heap.size) ∧ Below z.heap.size z w')
    (h2 : ∀ z bl br a cap, Below w.heap.size w z → InRowM z a LF → (∀ b, b ∈ blkO a → b < z.heap.size) → z.heap[bl]? = some (.cells #[.slice a LF.length cap] 29 (0, 0)) → z.heap[br]? = some (.cells #[.slice aE n cE] 29 (0, 0)) →
      Calls Try.prog 61 #[.func (.func 90) #[] #[.pointer (some ⟨bl, 0, none⟩), .pointer (some ⟨br, 0, none⟩)]] z
        fun e w' => ∃ a cap, e = .returned (.slice a M.length cap) ∧ (RdM w' z.heap.size a M ∧ ∀ b, b ∈ blkO a → b < w'.heap.size) ∧ Below z.heap.size z w') :
    Calls Try.prog 65 #[.pointer (some ⟨b, 0, none⟩), mv q s] w
      fun e w' => ∃ a cap, e = .returned (.slice a M.length cap) ∧ RdM w' w.heap.size a M ∧ Below w.heap.size w w' := by
  have H1 := Lib.hid h1
  have H2 := Lib.hid h2
  obtain ⟨wg, hwg⟩ : ∃ wg, wg = w.alloc (.cells (mcells q s) 31) := ⟨_, rfl⟩
  have hgs : wg.heap.size = w.heap.size + 1 := by rw [hwg]; simp
  have hgf : wg.heap[w.heap.size]? = some (.cells (mcells q s) 31 (0, 0)) := by rw [hwg]; exact halloc_at _ _ _ rfl
  have hgb : Below w.heap.size w wg := by rw [hwg]; exact (Below.refl _ _).alloc (Nat.le_refl _) _
  have HBG := Lib.hid hgb
  have HGF := Lib.hid hgf
  obtain ⟨r0, r1, r2, r3, r4, r5⟩ := belN_cells (B := wg.heap.size) (by omega) hgf
  have hbl : b < w.heap.size := (Array.getElem?_eq_some_iff.1 hm).1
  have m0 : ∀ z, Below wg.heap.size wg z → z.cell? ⟨b, 0, none⟩ = some (.slice aE n cE) := fun z hz => by
    have := Joins.cell_of_block ((hz.block b (by omega)).trans (bel_at hgb hm)) 0
    simpa using this
  have HM := Lib.hid m0
  have hws : w.heap.size ≤ wg.heap.size := hgb.size
  have HGS := Lib.hid hgs
  clear h1 h2 hgb hgf hm hgs
  simp only [mv, mcells] at H1 HGF ⊢
  go_enter Try.func65, Try.ntmps65
  simp only [mcells] at hwg
  go_upto_region 1 with fail
  try rw [← hwg]
  clear hwg
  go_cut [5] from 6 to 13 (fun s5 wx => ∃ a cap, s5 = .slice a LF.length cap ∧ (InRowM wx a LF ∧ ∀ b, b ∈ blkO a → b < wx.heap.size) ∧ Below wg.heap.size wg wx)
  case first =>
    go_region_held3 (fun w' => Below wg.heap.size wg w') (first | (with_reducible assumption) | ((repeat' (first | (with_reducible exact Below.refl _ _) | (with_reducible refine Below.alloc ?_ ?_ _) | (with_reducible refine Below.setCell ?_ ?_ _) | (with_reducible refine Below.drew ?_) | (with_reducible refine below_drewN ?_ _) | (with_reducible refine Below.trans ?_ (Below.mono (Hid.out (by assumption)) ?_)) | omega | (simp; done) | (simp; omega))); done)) (first
      | (go_at_call 62; (with_reducible refine (products_any _ _ _ _ _ _ _).mono ?_); rintro e w2 ⟨rfl, rfl⟩)
      | (go_at_call 61; (with_reducible refine (H1.out _ (wg.heap.size + 1) (wg.heap.size + 1 + 1) wg.heap.size (by (repeat' (first | (with_reducible exact Below.refl _ _) | (with_reducible refine Below.alloc ?_ ?_ _) | (with_reducible refine Below.setCell ?_ ?_ _) | (with_reducible refine Below.drew ?_) | (with_reducible refine below_drewN ?_ _) | (with_reducible refine Below.trans ?_ (Below.mono (Hid.out (by assumption)) ?_)) | omega | (simp; done) | (simp; omega)))) (by (repeat' (first | omega | (rw [hdrew]) | (with_reducible assumption) | (with_reducible exact Hid.out (by assumption)) | (with_reducible rfl) | ((with_reducible refine halloc_at _ _ _ ?_) <;> (first | (with_reducible rfl) | omega | (simp; done))) | (with_reducible refine chain6 ?_) | (with_reducible refine Eq.trans (hset_ne _ _ _ _ ?_) ?_) | (with_reducible refine Eq.trans (halloc_lt _ _ _ ?_) ?_) | (with_reducible refine Eq.trans (Below.block (Hid.out (by assumption)) _ ?_) ?_) | (simp; done) | (simp; omega)))) (by (repeat' (first | omega | (rw [hdrew]) | (with_reducible assumption) | (with_reducible exact Hid.out (by assumption)) | (with_reducible rfl) | ((with_reducible refine halloc_at _ _ _ ?_) <;> (first | (with_reducible rfl) | omega | (simp; done))) | (with_reducible refine chain6 ?_) | (with_reducible refine Eq.trans (hset_ne _ _ _ _ ?_) ?_) | (with_reducible refine Eq.trans (halloc_lt _ _ _ ?_) ?_) | (with_reducible refine Eq.trans (Below.block (Hid.out (by assumption)) _ ?_) ?_) | (simp; done) | (simp; omega)))) (by (repeat' (first | omega | (rw [hdrew]) | (with_reducible assumption) | (with_reducible exact Hid.out (by assumption)) | (with_reducible rfl) | ((with_reducible refine halloc_at _ _ _ ?_) <;> (first | (with_reducible rfl) | omega | (simp; done))) | (with_reducible refine chain6 ?_) | (with_reducible refine Eq.trans (hset_ne _ _ _ _ ?_) ?_) | (with_reducible refine Eq.trans (halloc_lt _ _ _ ?_) ?_) | (with_reducible refine Eq.trans (Below.block (Hid.out (by assumption)) _ ?_) ?_) | (simp; done) | (simp; omega))))).mono ?_); rintro e w5 ⟨a5, c5, rfl, ⟨hr5, hk5⟩, hb⟩; obtain ⟨hc, hf⟩ := bcell hb; have hz := hb.size; have Hb := Lib.hid hb; have HR5 := Lib.hid hr5; have HK5 := Lib.hid hk5; (try simp at hz hc hf); clear hb hr5 hk5))
    all_goals (go_wp2_with fail)
    all_goals (go_meet)
    all_goals exact ⟨a5, c5, rfl, ⟨HR5.out.below (by (repeat' (first | (with_reducible exact Below.refl _ _) | (with_reducible refine Below.alloc ?_ ?_ _) | (with_reducible refine Below.setCell ?_ ?_ _) | (with_reducible refine Below.drew ?_) | (with_reducible refine below_drewN ?_ _) | (with_reducible refine Below.trans ?_ (Below.mono (Hid.out (by assumption)) ?_)) | omega | (simp; done) | (simp; omega)))), fun x hx => Nat.lt_of_lt_of_le (HK5.out x hx) (by first | exact Nat.le_refl _ | (simp; done) | (simp; omega))⟩, by (repeat' (first | (with_reducible exact Below.refl _ _) | (with_reducible refine Below.alloc ?_ ?_ _) | (with_reducible refine Below.setCell ?_ ?_ _) | (with_reducible refine Below.drew ?_) | (with_reducible refine below_drewN ?_ _) | (with_reducible refine Below.trans ?_ (Below.mono (Hid.out (by assumption)) ?_)) | omega | (simp; done) | (simp; omega)))⟩
  case rest =>
    obtain ⟨a5, c5, rfl, ⟨hr5, hk5⟩, hbc⟩ := hcut
    have HR5 := Lib.hid hr5
    have HK5 := Lib.hid hk5
    have HBC := Lib.hid hbc
    have hzc := hbc.size
    have hm2 := HM.out _ hbc
    clear hr5 hk5 hbc r0 r1 r2 r3 r4 r5 m0
    go_wp2_with (go_at_call 62; (with_reducible refine (products_any _ _ _ _ _ _ _).mono ?_); rintro e w2 ⟨rfl, rfl⟩)
    refine (H2.out _ wc.heap.size (wc.heap.size + 1) a5 c5 ?_ ?_ ?_ ?_ ?_).mono ?_
    · (repeat' (first | (with_reducible exact Below.refl _ _) | (with_reducible refine Below.alloc ?_ ?_ _) | (with_reducible refine Below.setCell ?_ ?_ _) | (with_reducible refine Below.drew ?_) | (with_reducible refine below_drewN ?_ _) | (with_reducible refine Below.trans ?_ (Below.mono (Hid.out (by assumption)) ?_)) | omega | (simp; done) | (simp; omega)))
    · exact HR5.out.below (by (repeat' (first | (with_reducible exact Below.refl _ _) | (with_reducible refine Below.alloc ?_ ?_ _) | (with_reducible refine Below.setCell ?_ ?_ _) | (with_reducible refine Below.drew ?_) | (with_reducible refine below_drewN ?_ _) | (with_reducible refine Below.trans ?_ (Below.mono (Hid.out (by assumption)) ?_)) | omega | (simp; done) | (simp; omega))))
    · exact fun x hx => Nat.lt_of_lt_of_le (HK5.out x hx) (by simp; omega)
    · (repeat' (first | omega | (rw [hdrew]) | (with_reducible assumption) | (with_reducible exact Hid.out (by assumption)) | (with_reducible rfl) | ((with_reducible refine halloc_at _ _ _ ?_) <;> (first | (with_reducible rfl) | omega | (simp; done))) | (with_reducible refine chain6 ?_) | (with_reducible refine Eq.trans (hset_ne _ _ _ _ ?_) ?_) | (with_reducible refine Eq.trans (halloc_lt _ _ _ ?_) ?_) | (with_reducible refine Eq.trans (Below.block (Hid.out (by assumption)) _ ?_) ?_) | (simp; done) | (simp; omega)))
    · (repeat' (first | omega | (rw [hdrew]) | (with_reducible assumption) | (with_reducible exact Hid.out (by assumption)) | (with_reducible rfl) | ((with_reducible refine halloc_at _ _ _ ?_) <;> (first | (with_reducible rfl) | omega | (simp; done))) | (with_reducible refine chain6 ?_) | (with_reducible refine Eq.trans (hset_ne _ _ _ _ ?_) ?_) | (with_reducible refine Eq.trans (halloc_lt _ _ _ ?_) ?_) | (with_reducible refine Eq.trans (Below.block (Hid.out (by assumption)) _ ?_) ?_) | (simp; done) | (simp; omega)))
    rintro e w6 ⟨a6, c6, rfl, ⟨hr6, _⟩, hb6⟩
    have HR6 := Lib.hid hr6
    have Hb6 := Lib.hid hb6
    clear hr6 hb6
    go_wp2_with fail
    go_ret
    refine ⟨a6, c6, rfl, HR6.out.mono (by simp; omega), ?_⟩
    (repeat' (first | (with_reducible exact Below.refl _ _) | (with_reducible refine Below.alloc ?_ ?_ _) | (with_reducible refine Below.setCell ?_ ?_ _) | (with_reducible refine Below.drew ?_) | (with_reducible refine below_drewN ?_ _) | (with_reducible refine Below.trans ?_ (Below.mono (Hid.out (by assumption)) ?_)) | omega | (simp; done) | (simp; omega)))

end Go.Proofs.Ytiogagaclhjdaaa
