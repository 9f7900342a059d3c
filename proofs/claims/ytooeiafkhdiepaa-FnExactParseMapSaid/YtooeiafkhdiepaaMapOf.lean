/- The contracts of impl.arrayOfImages and impl.MapOf. -/
import Derived.Test.YtooeiafkhdiepaaMade
import Derived.Test.YtooeiafkhdiepaaIim
import Derived.Laws.CopyOwn
namespace Go.Proofs.Ytooeiafkhdiepaa
open Go.RowKit

theorem splice5 (L : List Int) (h5 : L.length ≤ 5) : splice [.int .i64 0, .int .i64 0, .int .i64 0, .int .i64 0, .int .i64 0] 0 (L.map (Value.int .i64)) = [.int .i64 (tL L 0), .int .i64 (tL L 1), .int .i64 (tL L 2), .int .i64 (tL L 3), .int .i64 (tL L 4)] := by
  rcases L with _ | ⟨x0, _ | ⟨x1, _ | ⟨x2, _ | ⟨x3, _ | ⟨x4, _ | ⟨x5, l⟩⟩⟩⟩⟩⟩
  · rfl
  · rfl
  · rfl
  · rfl
  · rfl
  · rfl
  · simp at h5

theorem size_int : (Try.prog.info? 2).map (·.size) = some 1 := by kernel_rfl

set_option maxHeartbeats 1000000 in
theorem arr_any (L : List Int) (h5 : L.length ≤ 5) (a : Option Addr) (c : Nat) (w : World) (h : InRow w a L) :
    Calls Try.prog 81 #[.slice a L.length c] w fun e w' =>
      e = .returned (.agg #[.int .i64 (tL L 0), .int .i64 (tL L 1), .int .i64 (tL L 2), .int .i64 (tL L 3), .int .i64 (tL L 4)]) ∧ Below w.heap.size w w' := by
  have hmk : ∀ w : World, (Instr.makeSlice 37 (.int .i64 5) (.int .i64 5)).run Try.prog w = .ok (.slice (some ⟨w.heap.size, 0, none⟩) 5 5) (w.alloc (.cells #[.int .i64 0, .int .i64 0, .int .i64 0, .int .i64 0, .int .i64 0] 2)) := fun _ => by kernel_rfl
  have HN := Lib.hid h
  have HSP := Lib.hid (splice5 L h5)
  clear h
  go_enter Try.func81, Try.ntmps81
  go_wp2_with (with_reducible refine wpList_copy_splice rfl (.tmp 5) (.tmp 6) 37 37 rfl 2 Try.underlying37 size_int _ _ _ _ _ _ rfl rfl (w.heap.size + 1) 0 [.int .i64 0, .int .i64 0, .int .i64 0, .int .i64 0, .int .i64 0] 2 ?c1 (L.map (Value.int .i64)) ?c2 ?c3 ?c4 ?c5 (w.heap.size + 1) (w.alloc (.cells #[.int .i64 0, .int .i64 0, .int .i64 0, .int .i64 0, .int .i64 0] 24)) ?c6 ?c7 ?_)
  case c1 => ((try rw [hdrew]); simp only [halloc, Array.getElem?_push, Array.size_push]; (repeat (first | rw [if_pos (by omega)] | rw [if_neg (by omega)])); try rfl)
  case c2 => rw [List.length_map]; exact (Nat.min_eq_left h5).symm
  case c3 =>
    intro hpos
    (try rw [List.length_map] at hpos)
    obtain ⟨b, off, rfl, hlt, hc⟩ := HN.out.resolve_left (fun e => by rw [e] at hpos; simp at hpos)
    first
      | refine ⟨_, rfl, fun j x hj => ?_⟩
      | refine ⟨rfl, _, rfl, fun j x hj => ?_⟩
    all_goals
      have hjl : j < L.length := by
        rcases Nat.lt_or_ge j L.length with h | h
        · exact h
        · rw [List.getElem?_eq_none h] at hj; cases hj
      have e1 := hc j hjl
      have hadd : (⟨b, off, none⟩ : Addr).add j = ⟨b, off + j, none⟩ := by cases j <;> simp [Addr.add]
      rw [hadd, World.cell?_alloc_lt _ _ _ (by simp; omega), World.cell?_alloc_lt _ _ _ hlt, e1]
      rw [List.getElem?_eq_getElem hjl] at hj
      simp at hj
      simp [hjl, hj]
  case c4 => simp; omega
  case c5 => intro v hv; simp at hv; obtain ⟨x, _, rfl⟩ := hv; rfl
  case c6 => exact (Below.refl _ _).alloc (by simp) _
  case c7 => exact Nat.le_refl _
  intro w1 hg hb
  have hg' := hg.out
  rw [HSP.out] at hg'
  have hb' := hb.block w.heap.size (by omega)
  rw [halloc_at _ _ _ rfl] at hb'
  have hsz := hb.size
  simp at hsz
  have Hb := Lib.hid hb
  have BG := Lib.hid hg'
  have BR := Lib.hid hb'
  clear hg hg' hb hb'
  have c0 := Joins.cell_of_block BG.out 0
  have c1 := Joins.cell_of_block BG.out 1
  have c2 := Joins.cell_of_block BG.out 2
  have c3 := Joins.cell_of_block BG.out 3
  have c4 := Joins.cell_of_block BG.out 4
  have r0 := Joins.cell_of_block BR.out 0
  have r1 := Joins.cell_of_block BR.out 1
  have r2 := Joins.cell_of_block BR.out 2
  have r3 := Joins.cell_of_block BR.out 3
  have r4 := Joins.cell_of_block BR.out 4
  have fr := blk_free BR.out
  have hat : ∀ x : World, (Instr.arrayAt 24 (.slice (some ⟨w.heap.size + 1, 0, none⟩) 5 5)).run Try.prog x = .ok (.pointer (some ⟨w.heap.size + 1, 0, none⟩)) x := fun x => run_arrayAt x 24 _ 5 _ 5 5 Try.underlying24 (by omega)
  simp at c0 c1 c2 c3 c4 r0 r1 r2 r3 r4
  generalize hT0 : tL L 0 = t0 at *
  have HT0 := Lib.hid hT0
  clear hT0
  generalize hT1 : tL L 1 = t1 at *
  have HT1 := Lib.hid hT1
  clear hT1
  generalize hT2 : tL L 2 = t2 at *
  have HT2 := Lib.hid hT2
  clear hT2
  generalize hT3 : tL L 3 = t3 at *
  have HT3 := Lib.hid hT3
  clear hT3
  generalize hT4 : tL L 4 = t4 at *
  have HT4 := Lib.hid hT4
  clear hT4
  go_wp2_with fail
  refine bodyPost_ret (v := .agg #[.int .i64 t0, .int .i64 t1, .int .i64 t2, .int .i64 t3, .int .i64 t4]) (by simp [results, Try.results81, go_sem, r0, r1, r2, r3, r4]) rfl ⟨by rw [HT0.out, HT1.out, HT2.out, HT3.out, HT4.out], ?_⟩
  (repeat' (first | (with_reducible exact Below.refl _ _) | (with_reducible refine Below.alloc ?_ ?_ _) | (with_reducible refine Below.setCell ?_ ?_ _) | (with_reducible refine Below.drew ?_) | (with_reducible refine below_drewN ?_ _) | (with_reducible refine Below.trans ?_ (Below.mono (Hid.out (by assumption)) ?_)) | omega | (simp; done) | (simp; omega)))

set_option maxHeartbeats 2000000 in
theorem iMapOf_any (L : List Int) (hn : L.length ≤ 1048576) (a : Option Addr) (c : Nat) (w : World) (h : InRow w a L) :
    Calls Try.prog 23 #[.slice a L.length c] w fun e w' => e = .returned (mapV L) ∧ Below w.heap.size w w' := by
  by_cases h1 : 1 ≤ L.length
  · by_cases h5 : L.length ≤ 5
    · have HN := Lib.hid (h.below ((Below.refl _ _).alloc (Nat.le_refl _) (.cells (mcells 0 fun _ => 0) 26)))
      have HA := Lib.hid fun w h => arr_any L h5 a c w h
      have HI := Lib.hid fun w => iis_any L.length (tL L) w
      have hlo : ¬ ((L.length : Int) < 1) := by omega
      have hhi : ¬ (5 < (L.length : Int)) := by omega
      clear h
      cases hv : isB L.length (tL L)
      · have HV := Lib.hid (mapV_2 hv)
        rw [hv] at HI
        clear hv
        generalize tL L = T at *
        simp only [mv, mcells] at HI HN
        go_enter Try.func23, Try.ntmps23
        go_wp2_with fail
        (refine (HA.out _ HN.out).mono ?_; rintro e w1 ⟨rfl, hb⟩; obtain ⟨hc, hf⟩ := bcell hb; have hz := hb.size; have Hb := Lib.hid hb; (try simp at hz hc hf); (try (have hy := Nat.lt_of_succ_le hz)); have hz0 : w.heap.size < w1.heap.size := (by omega); clear hb)
        go_wp2_with fail
        (refine (HI.out _).mono ?_; rintro e w1 ⟨rfl, hb⟩; obtain ⟨hc, hf⟩ := bcell hb; have hz := hb.size; have Hb := Lib.hid hb; (try simp at hz hc hf); (try (have hy := Nat.lt_of_succ_le hz)); have hz0 : w.heap.size < w1.heap.size := (by omega); clear hb)
        have q0 := hc w.heap.size 0 (by omega)
        have q1 := hc w.heap.size 1 (by omega)
        have q2 := hc w.heap.size 2 (by omega)
        have q3 := hc w.heap.size 3 (by omega)
        have q4 := hc w.heap.size 4 (by omega)
        have q5 := hc w.heap.size 5 (by omega)
        go_wp2_with fail
        refine bodyPost_ret (v := .tuple #[mv 0 fun _ => 0, .int .i64 2]) (by simp [results, Try.results23, go_sem, *]) rfl ⟨by rw [HV.out], ?_⟩
        (repeat' (first | (with_reducible exact Below.refl _ _) | (with_reducible refine Below.alloc ?_ ?_ _) | (with_reducible refine Below.setCell ?_ ?_ _) | (with_reducible refine Below.drew ?_) | (with_reducible refine below_drewN ?_ _) | (with_reducible refine Below.trans ?_ (Below.mono (Hid.out (by assumption)) ?_)) | omega | (simp; done) | (simp; omega)))
      · have HV := Lib.hid (mapV_0 hv)
        rw [hv] at HI
        clear hv
        generalize tL L = T at *
        simp only [mv, mcells] at HI HN
        go_enter Try.func23, Try.ntmps23
        go_wp2_with fail
        (refine (HA.out _ HN.out).mono ?_; rintro e w1 ⟨rfl, hb⟩; obtain ⟨hc, hf⟩ := bcell hb; have hz := hb.size; have Hb := Lib.hid hb; (try simp at hz hc hf); (try (have hy := Nat.lt_of_succ_le hz)); have hz0 : w.heap.size < w1.heap.size := (by omega); clear hb)
        go_wp2_with fail
        (refine (HI.out _).mono ?_; rintro e w1 ⟨rfl, hb⟩; obtain ⟨hc, hf⟩ := bcell hb; have hz := hb.size; have Hb := Lib.hid hb; (try simp at hz hc hf); (try (have hy := Nat.lt_of_succ_le hz)); have hz0 : w.heap.size < w1.heap.size := (by omega); clear hb)
        have q0 := hc w.heap.size 0 (by omega)
        have q1 := hc w.heap.size 1 (by omega)
        have q2 := hc w.heap.size 2 (by omega)
        have q3 := hc w.heap.size 3 (by omega)
        have q4 := hc w.heap.size 4 (by omega)
        have q5 := hc w.heap.size 5 (by omega)
        go_wp2_with fail
        refine bodyPost_ret (v := .tuple #[mv L.length T, .int .i64 0]) (by simp [results, Try.results23, go_sem, *]) rfl ⟨by rw [HV.out], ?_⟩
        (repeat' (first | (with_reducible exact Below.refl _ _) | (with_reducible refine Below.alloc ?_ ?_ _) | (with_reducible refine Below.setCell ?_ ?_ _) | (with_reducible refine Below.drew ?_) | (with_reducible refine below_drewN ?_ _) | (with_reducible refine Below.trans ?_ (Below.mono (Hid.out (by assumption)) ?_)) | omega | (simp; done) | (simp; omega)))
    · have hbad : isB L.length (tL L) = false := isB_false_p (by omega)
      rw [mapV_2 hbad]
      have hhi : 5 < (L.length : Int) := by omega
      clear h hbad
      go_enter Try.func23, Try.ntmps23
      go_wp2_with fail
      refine bodyPost_ret (v := .tuple #[mv 0 fun _ => 0, .int .i64 2]) (by simp [results, Try.results23, go_sem]) rfl ⟨rfl, ?_⟩
      (repeat' (first | (with_reducible exact Below.refl _ _) | (with_reducible refine Below.alloc ?_ ?_ _) | (with_reducible refine Below.setCell ?_ ?_ _) | (with_reducible refine Below.drew ?_) | (with_reducible refine below_drewN ?_ _) | (with_reducible refine Below.trans ?_ (Below.mono (Hid.out (by assumption)) ?_)) | omega | (simp; done) | (simp; omega)))
  · have hbad : isB L.length (tL L) = false := isB_false_p (by omega)
    rw [mapV_2 hbad]
    have hlo : (L.length : Int) < 1 := by omega
    clear h hbad
    go_enter Try.func23, Try.ntmps23
    go_wp2_with fail
    refine bodyPost_ret (v := .tuple #[mv 0 fun _ => 0, .int .i64 2]) (by simp [results, Try.results23, go_sem]) rfl ⟨rfl, ?_⟩
    (repeat' (first | (with_reducible exact Below.refl _ _) | (with_reducible refine Below.alloc ?_ ?_ _) | (with_reducible refine Below.setCell ?_ ?_ _) | (with_reducible refine Below.drew ?_) | (with_reducible refine below_drewN ?_ _) | (with_reducible refine Below.trans ?_ (Below.mono (Hid.out (by assumption)) ?_)) | omega | (simp; done) | (simp; omega)))

end Go.Proofs.Ytooeiafkhdiepaa
