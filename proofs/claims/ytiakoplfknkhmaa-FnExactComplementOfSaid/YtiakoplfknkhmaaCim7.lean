/- impl.ComplementOf at every acceptor value. -/
import Derived.Test.YtiakoplfknkhmaaCmp7
namespace Go.Proofs.Ytiakoplfknkhmaa
open Go Go.RowKit

theorem cmK_zero (p : Nat) (S : List Int) : cmK p S 0 = alB p := by funext j; simp [cmK, memK]
theorem cmK_end (p : Nat) (S : List Int) : cmK p S S.length = cmB p S := rfl
theorem cmK_put (p : Nat) (S : List Int) (k q : Nat) (h : S.getD k 0 = (q : Int)) : (fun i => if i = q then false else cmK p S k i) = cmK p S (k + 1) := by
  have e := memK_succ S k (by omega)
  rw [h] at e
  funext j
  unfold cmK
  rw [← e]
  simp only [setB, Int.toNat_natCast]
  split <;> simp

set_option maxRecDepth 100000 in
set_option maxHeartbeats 8000000 in
theorem iCm_any (L : List MapN) (hl : L.length ≤ 1048576) (F : Int) (S : List Int) (hs : S.length ≤ 1048576) (a b : Option Addr) (c d : Nat) (hc0 : a = none → c = 0) (w : World) (h1 : InRowM w a L) (h2 : InRow w b S) :
    Calls Try.prog 34 #[.agg #[.slice a L.length c, .int .i64 F, .slice b S.length d]] w (RetAcc w.heap.size (cmL L F S) (cmF L F S) (cmS L F S) (cmC L F S) w) := by
  obtain ⟨wb, hwb⟩ : ∃ wb, wb = (w.alloc (.cells #[.slice a L.length c, .int .i64 F, .slice b S.length d] 30)).alloc (.cells #[.slice none 0 0, .int .i64 0, .slice none 0 0] 30) := ⟨_, rfl⟩
  have HWB : Hid (Below w.heap.size w wb) := Lib.hid (by rw [hwb]; exact ((Below.refl _ _).alloc (Nat.le_refl _) _).alloc (by simp) _)
  have hbx : wb.heap[w.heap.size]? = some (.cells #[.slice a L.length c, .int .i64 F, .slice b S.length d] 30 (0, 0)) := by rw [hwb]; exact (halloc_lt _ _ _ (by simp)).trans (halloc_at _ _ _ rfl)
  have hby : wb.heap[w.heap.size + 1]? = some (.cells #[.slice none 0 0, .int .i64 0, .slice none 0 0] 30 (0, 0)) := by rw [hwb]; exact halloc_at _ _ _ (by simp)
  have hwz : w.heap.size + 1 < wb.heap.size := (Array.getElem?_eq_some_iff.1 hby).1
  have HBX := Lib.hid hbx
  have HBY := Lib.hid hby
  have f0 := Joins.cell_of_block hbx 0
  have f1 := Joins.cell_of_block hbx 1
  have f2 := Joins.cell_of_block hbx 2
  simp only [List.getElem?_toArray, List.getElem?_cons_zero, List.getElem?_cons_succ] at f0 f1 f2
  have HAC := Lib.hid (iacc_any L hl F S hs a b c d hc0 wb (h1.below HWB.out) (h2.below HWB.out))
  clear hbx hby
  cases hA : accB L F S
  · rw [hA] at HAC
    have e1 : cmL L F S = [] := by unfold cmL; rw [hA]; rfl
    have e2 : cmF L F S = 0 := by unfold cmF; rw [hA]; rfl
    have e3 : cmS L F S = [] := by unfold cmS; rw [hA]; rfl
    have e4 : cmC L F S = 1 := by unfold cmC; rw [hA]; rfl
    rw [e1, e2, e3, e4]
    clear hA h1 h2 e1 e2 e3 e4
    go_enter Try.func34, Try.ntmps34
    go_wp2_with fail
    rw [← hwb]
    clear hwb
    go_wp2_with fail
    refine HAC.out.mono ?_
    rintro e w1 ⟨rfl, hb⟩
    have HB1 : Hid (Below w.heap.size w w1) := Lib.hid (HWB.out.trans (hb.mono (by omega)))
    have hz1 := hb.size
    have hby := (hb.block _ (by omega)).trans HBY.out
    have y0 := Joins.cell_of_block hby 0
    have y1 := Joins.cell_of_block hby 1
    have y2 := Joins.cell_of_block hby 2
    have hfr := blk_free hby
    simp only [List.getElem?_toArray, List.getElem?_cons_zero, List.getElem?_cons_succ] at y0 y1 y2
    have HBYW := Lib.hid hby
    clear hb hby
    go_wp2_with fail
    obtain ⟨wz, hwz2⟩ : ∃ wz, wz = ((w1.setCell ⟨w.heap.size + 1, 0, none⟩ (Value.slice none 0 0)).setCell ⟨w.heap.size + 1, 1, none⟩ (Value.int .i64 0)).setCell ⟨w.heap.size + 1, 2, none⟩ (Value.slice none 0 0) := ⟨_, rfl⟩
    have hres : wz.heap[w.heap.size + 1]? = some (.cells #[(Value.slice none 0 0), (Value.int .i64 0), (Value.slice none 0 0)] 30 (0, 0)) := by rw [hwz2]; exact chain3 HBYW.out
    have HTZ : Hid (Turn w1 wz (fun r => r = w.heap.size + 1)) := Lib.hid (by rw [hwz2]; exact (((Turn.of_below (S := fun r => r = w.heap.size + 1) (Below.refl _ _)).setCell rfl).setCell rfl).setCell rfl)
    have r0 := Joins.cell_of_block hres 0
    have r1 := Joins.cell_of_block hres 1
    have r2 := Joins.cell_of_block hres 2
    simp only [List.getElem?_toArray, List.getElem?_cons_zero, List.getElem?_cons_succ] at r0 r1 r2
    rw [← hwz2]
    clear hwz2 hres
    refine bodyPost_ret (v := .tuple #[.agg #[.slice none 0 0, .int .i64 0, .slice none 0 0], .int .i64 1]) (by simp [results, Try.results34, go_sem, r0, r1, r2]) rfl ?_
    exact retAcc_nil (HB1.out.trans (HTZ.out.bel (fun k hk e => by omega) (by omega))) 1
  obtain ⟨hL, hF0, hF1, hS, _⟩ := accB_true hA
  have e1 : cmL L F S = L := by unfold cmL; rw [if_pos hA]
  have e2 : cmF L F S = F := by unfold cmF; rw [if_pos hA]
  have e3 : cmS L F S = asc (cmB (fst0 L).toNat S) := by unfold cmS; rw [if_pos hA]
  have e4 : cmC L F S = 0 := by unfold cmC; rw [if_pos hA]
  rw [e1, e2, e3, e4]
  rw [hA] at HAC
  have hfst := hL.fst
  obtain ⟨p, hp⟩ : ∃ p, p = (fst0 L).toNat := ⟨_, rfl⟩
  rw [← hp] at hL hfst ⊢
  rw [hfst] at hS
  have hp1 := hL.p1
  have hp5 := hL.p5
  have hm6 := hL.l6
  have hpos : 0 < L.length := hL.l1
  obtain ⟨g, off, rfl, hlt, hat⟩ := h1.at0 hpos
  have h0 : w.cell? ⟨g, off, none⟩ = some (.int .i64 (p : Int)) := by rw [← hfst]; exact hat.1
  have H0 := Lib.hid h0
  have HM := Lib.hid h1
  have HSR := Lib.hid h2
  have HAP := Lib.hid fun wx => allPtsC_any p hp5 wx
  have HCL := Lib.hid fun wx (hb : Below w.heap.size w wx) => cloneM_any L hl g off c wx (h1.below hb)
  have HASC := Lib.hid fun wx => asc_any (cmB p S) wx
  have HPTS := Lib.hid fun k hk => ptsB_at hS k hk
  have hascl := ascK_len (cmB p S) 5
  have HASL : Hid ((asc (cmB p S)).length ≤ 2000000) := Lib.hid (by show (ascK (cmB p S) 5).length ≤ _; omega)
  generalize asc (cmB p S) = R at *
  clear hA h1 h2 hL hF0 hF1 hS hp hfst hat h0 e1 e2 e3 e4 hascl
  go_enter Try.func34, Try.ntmps34
  go_wp2_with fail
  rw [← hwb]
  clear hwb
  go_wp2_with fail
  refine HAC.out.mono ?_
  rintro e w1 ⟨rfl, hb⟩
  have HB1 : Hid (Below w.heap.size w w1) := Lib.hid (HWB.out.trans (hb.mono (by omega)))
  have hz1 := hb.size
  have hbx := (hb.block _ (by omega)).trans HBX.out
  have hby := (hb.block _ (by omega)).trans HBY.out
  have HBX := Lib.hid hbx
  have HBY := Lib.hid hby
  have f0 := Joins.cell_of_block hbx 0
  have f1 := Joins.cell_of_block hbx 1
  have f2 := Joins.cell_of_block hbx 2
  simp only [List.getElem?_toArray, List.getElem?_cons_zero, List.getElem?_cons_succ] at f0 f1 f2
  have e0 := (HB1.out.cell (p := ⟨g, off, none⟩) hlt).trans H0.out
  have hsz : w.heap.size < w1.heap.size := by omega
  clear hb hbx hby HAC
  go_wp2_with fail
  refine (HAP.out _).mono ?_
  rintro e w2 ⟨rfl, hb⟩
  have HB2 : Hid (Below w.heap.size w w2) := Lib.hid (HB1.out.trans (hb.mono (by omega)))
  have hz2 := hb.size
  have hbx := (hb.block _ (by omega)).trans HBX.out
  have hby := (hb.block _ (by omega)).trans HBY.out
  have HBX := Lib.hid hbx
  have HBY := Lib.hid hby
  have f0 := Joins.cell_of_block hbx 0
  have f1 := Joins.cell_of_block hbx 1
  have f2 := Joins.cell_of_block hbx 2
  simp only [List.getElem?_toArray, List.getElem?_cons_zero, List.getElem?_cons_succ] at f0 f1 f2
  clear hb hbx hby HAP
  have hcx : ∀ (o : Obj), (w2.alloc o).cell? ⟨w.heap.size, 2, none⟩ = some (.slice b S.length d) := fun o => Joins.cell_of_block ((halloc_lt w2 o _ (by omega)).trans HBX.out) 2
  have hw2 : w.heap.size + 1 < w2.heap.size := by omega
  simp only [cells5]
  go_wp2_with fail
  clear f0 f1 f2 e0 hcx
  go_loopw [6, 20] (fun _ i wr => ∃ k : Nat, k ≤ S.length ∧ i = .int .i64 k ∧ Below w.heap.size w wr ∧ w2.heap.size < wr.heap.size ∧
      wr.heap[w.heap.size]? = some (.cells #[.slice (some ⟨g, off, none⟩) L.length c, .int .i64 F, .slice b S.length d] 30 (0, 0)) ∧ Sh3 wr (w.heap.size + 1) 30 ∧ wr.heap[w2.heap.size]? = some (.cells (cells5 (cmK p S k)) 77 (0, 0))) (fun _ i _ => S.length - (intOf i).toNat)
  case atStart =>
    refine ⟨0, by omega, rfl, ?_, by rw [World.size_alloc]; exact Nat.lt_succ_self _, (halloc_lt w2 _ _ (by omega)).trans HBX.out, ⟨_, _, _, (halloc_lt w2 _ _ (by omega)).trans HBY.out⟩, ?_⟩
    · (repeat' (first | (with_reducible exact Below.refl _ _) | (with_reducible refine Below.alloc ?_ ?_ _) | (with_reducible refine Below.setCell ?_ ?_ _) | (with_reducible refine Below.drew ?_) | (with_reducible refine below_drewN ?_ _) | (with_reducible refine Below.trans ?_ (Below.mono (Hid.out (by assumption)) ?_)) | omega | (simp; done) | (simp; omega)))
    · rw [cmK_zero]; exact halloc_at w2 _ _ rfl
  case round =>
    obtain ⟨k, hk, rfl, hb, hsz3, b0, b1, b2⟩ := hrel
    have Hb := Lib.hid hb
    have B0 := Lib.hid b0
    have B1 := Lib.hid b1
    have B2 := Lib.hid b2
    clear hb b0 b1 b2
    by_cases hkn : k < S.length
    · obtain ⟨bb, bo, rfl, hltb, hin⟩ := HSR.out.resolve_left (fun e => by rw [e] at hkn; simp at hkn)
      have hkn' : (k : Int) < (S.length : Int) := by omega
      have e1 := (Hb.out.cell (p := ⟨bb, bo + k, none⟩) hltb).trans (hin k hkn)
      obtain ⟨x0, x1⟩ := HPTS.out k hkn
      obtain ⟨q, hq⟩ := Int.eq_ofNat_of_zero_le x0
      have q5 : q < 5 := by omega
      have q5' : (q : Int) < 5 := by omega
      have hput := cells5_put (cmK p S k) q q5 false
      rw [cmK_put p S k q hq] at hput
      have HPUT := Lib.hid hput
      rw [hq] at e1
      have hok := blk5_at B2.out q q5
      have hfr := blk_free B2.out q
      clear hput hin x0 x1 hq
      go_wp2_with fail
      go_roundw
      case rel =>
        refine ⟨k + 1, by omega, by go_num, Hb.out.setCell (by simp; omega) _, by simpa using hsz3, ?_, ?_, ?_⟩
        · rw [hset_ne _ _ _ _ (by simp; omega)]; exact B0.out
        · exact B1.out.same (hset_ne _ _ _ _ (by simp; omega))
        · rw [Joins.block_setCell B2.out, HPUT.out]
      case measure => simp [intOf]; omega
    · have hkk : k = S.length := by omega
      subst hkk
      have b2 := B2.out
      rw [cmK_end] at b2
      have hsA1 := B0.out
      have hsB1 := B1.out
      have hs0 : w.heap.size < wr.heap.size := by omega
      have hs1 : w.heap.size + 1 < wr.heap.size := by omega
      have c0 : ∀ x : World, Sh3 x (w.heap.size + 1) 30 → x.cell? ⟨w.heap.size + 1, 0, none⟩ = some (cellV x (w.heap.size + 1) 0) := fun x h => h.at_ 0 (by omega)
      have c1 : ∀ x : World, Sh3 x (w.heap.size + 1) 30 → x.cell? ⟨w.heap.size + 1, 1, none⟩ = some (cellV x (w.heap.size + 1) 1) := fun x h => h.at_ 1 (by omega)
      have c2 : ∀ x : World, Sh3 x (w.heap.size + 1) 30 → x.cell? ⟨w.heap.size + 1, 2, none⟩ = some (cellV x (w.heap.size + 1) 2) := fun x h => h.at_ 2 (by omega)
      have fr : ∀ (x : World) (i : Nat), Sh3 x (w.heap.size + 1) 30 → x.frozen? ⟨w.heap.size + 1, i, none⟩ = false := fun x i h => h.fr i
      have d0 : ∀ x : World, x.heap[w.heap.size]? = some (.cells #[.slice (some ⟨g, off, none⟩) L.length c, .int .i64 F, .slice b S.length d] 30 (0, 0)) → x.cell? ⟨w.heap.size, 0, none⟩ = some (.slice (some ⟨g, off, none⟩) L.length c) := fun x h => Joins.cell_of_block h 0
      have d1 : ∀ x : World, x.heap[w.heap.size]? = some (.cells #[.slice (some ⟨g, off, none⟩) L.length c, .int .i64 F, .slice b S.length d] 30 (0, 0)) → x.cell? ⟨w.heap.size, 1, none⟩ = some (.int .i64 F) := fun x h => Joins.cell_of_block h 1
      obtain ⟨CB, hCB⟩ : ∃ CB, CB = cmB p S := ⟨_, rfl⟩
      rw [← hCB] at b2 HASC
      have g0 : ∀ x : World, x.heap[w2.heap.size]? = some (.cells (cells5 CB) 77 (0, 0)) → x.cell? ⟨w2.heap.size, 0, none⟩ = some (.bool (CB 0)) := fun x h => (blk5 h).1
      have g1 : ∀ x : World, x.heap[w2.heap.size]? = some (.cells (cells5 CB) 77 (0, 0)) → x.cell? ⟨w2.heap.size, 1, none⟩ = some (.bool (CB 1)) := fun x h => (blk5 h).2.1
      have g2 : ∀ x : World, x.heap[w2.heap.size]? = some (.cells (cells5 CB) 77 (0, 0)) → x.cell? ⟨w2.heap.size, 2, none⟩ = some (.bool (CB 2)) := fun x h => (blk5 h).2.2.1
      have g3 : ∀ x : World, x.heap[w2.heap.size]? = some (.cells (cells5 CB) 77 (0, 0)) → x.cell? ⟨w2.heap.size, 3, none⟩ = some (.bool (CB 3)) := fun x h => (blk5 h).2.2.2.1
      have g4 : ∀ x : World, x.heap[w2.heap.size]? = some (.cells (cells5 CB) 77 (0, 0)) → x.cell? ⟨w2.heap.size, 4, none⟩ = some (.bool (CB 4)) := fun x h => (blk5 h).2.2.2.2
      have hASC := HASC.out
      have hsC1 := b2
      clear b2 HASC hCB
      simp only [cells5] at hASC hsC1 g0 g1 g2 g3 g4
      have HASC := Lib.hid hASC
      clear hASC
      go_wp2_with fail
      go_region_held3 (fun w' => w'.heap[w.heap.size]? = some (.cells #[.slice (some ⟨g, off, none⟩) L.length c, .int .i64 F, .slice b S.length d] 30 (0, 0)) ∧ Sh3 w' (w.heap.size + 1) 30 ∧ w'.heap[w2.heap.size]? = some (.cells #[.bool (CB 0), .bool (CB 1), .bool (CB 2), .bool (CB 3), .bool (CB 4)] 77 (0, 0)))
        (first | exact ⟨hsA1, hsB1, hsC1⟩ | exact ⟨hsA7, hsB7, hsC7⟩ | exact ⟨hsA8, hsB8, hsC8⟩ | exact ⟨(hset_ne _ _ _ _ (by simp)).trans ((hset_ne _ _ _ _ (by simp)).trans ((hset_ne _ _ _ _ (by simp)).trans hsA8)), hsB8.set3 _ _ _, (hset_ne _ _ _ _ (by simp; omega)).trans ((hset_ne _ _ _ _ (by simp; omega)).trans ((hset_ne _ _ _ _ (by simp; omega)).trans hsC8))⟩ | fail "keep")
        (first
          | (go_at_call 59; (with_reducible refine (HCL.out _ (by (repeat' (first | (with_reducible exact Below.refl _ _) | (with_reducible refine Below.alloc ?_ ?_ _) | (with_reducible refine Below.setCell ?_ ?_ _) | (with_reducible refine Below.drew ?_) | (with_reducible refine below_drewN ?_ _) | (with_reducible refine Below.trans ?_ (Below.mono (Hid.out (by assumption)) ?_)) | omega | (simp; done) | (simp; omega))))).mono ?_); rintro e w7 ⟨v7, rfl, hown7, hb7⟩; obtain ⟨a7, c7, rfl, hrd7⟩ := ownM_rd hown7 (by omega); have HR7 : Hid (RdM w7 wr.heap.size a7 L) := Lib.hid hrd7; have hz7 : wr.heap.size ≤ w7.heap.size := hb7.size; have HB7 : Hid (Below wr.heap.size wr w7) := Lib.hid ((Below.drew (Below.refl _ _)).trans hb7); have hsA7 := (hb7.block _ hs0).trans hsA1; have hsB7 := hsB1.same (hb7.block _ hs1); have hsC7 := (hb7.block _ hsz3).trans hsC1; clear hown7 hb7 hrd7)
          | (go_at_call 60; (with_reducible refine (HASC.out _).mono ?_); rintro e w8 ⟨v8, rfl, hown8, hb8⟩; obtain ⟨a8, c8, rfl, hrd8⟩ := own_rd hown8 HASL.out; have HO8 := Lib.hid hown8; have hz8 := hb8.size; have HR8 := Lib.hid hrd8; have hsA8 := (hb8.block _ (show w.heap.size < _ by omega)).trans hsA7; have hsB8 := hsB7.same (hb8.block _ (show w.heap.size + 1 < _ by omega)); have hsC8 := (hb8.block _ (show w2.heap.size < _ by omega)).trans hsC7; have HB8 := Lib.hid hb8; clear hown8 hrd8 hb8)
          | fail "arm")
      obtain ⟨wz, hwz2⟩ : ∃ wz, wz = ((w8.setCell ⟨w.heap.size + 1, 0, none⟩ (Value.slice a7 L.length c7)).setCell ⟨w.heap.size + 1, 1, none⟩ (Value.int .i64 F)).setCell ⟨w.heap.size + 1, 2, none⟩ (Value.slice a8 R.length c8) := ⟨_, rfl⟩
      have hres : wz.heap[w.heap.size + 1]? = some (.cells #[(Value.slice a7 L.length c7), (Value.int .i64 F), (Value.slice a8 R.length c8)] 30 (0, 0)) := by
        rw [hwz2]; obtain ⟨y0, y1, y2, e⟩ := hsB8; exact chain3 e
      have HTZ : Hid (Turn w8 wz (fun r => r = w.heap.size + 1)) := Lib.hid (by rw [hwz2]; exact (((Turn.of_below (S := fun r => r = w.heap.size + 1) (Below.refl _ _)).setCell rfl).setCell rfl).setCell rfl)
      have r0 := Joins.cell_of_block hres 0
      have r1 := Joins.cell_of_block hres 1
      have r2 := Joins.cell_of_block hres 2
      simp only [List.getElem?_toArray, List.getElem?_cons_zero, List.getElem?_cons_succ] at r0 r1 r2
      rw [← hwz2]
      clear hwz2 hres hsA8 hsB8 hsA7 hsB7 hsA1 hsB1 hsC1 hsC7 hsC8 c0 c1 c2 fr d0 d1 g0 g1 g2 g3 g4
      go_wp2_with fail
      refine bodyPost_ret (v := .tuple #[.agg #[.slice a7 L.length c7, .int .i64 F, .slice a8 R.length c8], .int .i64 0]) (by simp [results, Try.results34, go_sem, r0, r1, r2]) rfl ?_
      have HB8Z := (HB8.out.mono (by omega)).trans (HTZ.out.bel (B := w.heap.size) (fun k hk e => by omega) (by omega))
      exact ⟨a7, c7, a8, c8, rfl, res_of hpos HR7.out HB8.out HR8.out HO8.out HTZ.out (by omega) (by omega) (by omega), (Hb.out.trans (HB7.out.mono (by omega))).trans HB8Z⟩

end Go.Proofs.Ytiakoplfknkhmaa
