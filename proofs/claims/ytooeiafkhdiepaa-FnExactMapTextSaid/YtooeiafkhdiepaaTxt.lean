/- The contract of impl.MapText. -/
import Derived.Test.YtooeiafkhdiepaaDec
import Derived.Test.YtooeiafkhdiepaaIim
import Derived.Maps.AppendAt
namespace Go.Proofs.Ytooeiafkhdiepaa
open Go.RowKit

theorem info_u8 : (Try.prog.info? 5).map (fun i => (i.zero, i.size, i.bytes)) = some (some (.int .u8 0), 1, 1) := by kernel_rfl

/-- The digits of the first k images, as numbers. -/
def dgn (t : Nat → Int) (k : Nat) : List Int := (List.range k).map fun i => 48 + t i

theorem dgn_len (t : Nat → Int) (k : Nat) : (dgn t k).length = k := by simp [dgn]

theorem dgn_succ (t : Nat → Int) (k : Nat) : dgn t (k + 1) = dgn t k ++ [48 + t k] := by simp [dgn, List.range_succ]

theorem dgn_txt (t : Nat → Int) (k : Nat) (h : ∀ i, i < k → 0 ≤ t i) : strOfNums (dgn t k) = txtK t k := by
  unfold strOfNums txtK dgs dgn dg
  congr 1
  rw [List.map_map]
  congr 1
  refine List.map_congr_left fun i hi => ?_
  have := h i (by simpa using hi)
  show UInt8.ofNat (48 + t i).toNat = UInt8.ofNat (48 + (t i).toNat)
  congr 1
  omega

theorem u8_cells {w : World} {B : Nat} {v : Value} {xs : List Int} (h : w.ownsRow B 5 1 v xs.length (xs.map (Value.int .u8))) (hx : xs ≠ []) :
    ∃ g cap, v = .slice (some ⟨g, 0, none⟩) xs.length cap ∧ ∀ i, i < xs.length → w.cell? ⟨g, 0 + i, none⟩ = some (.int .u8 (xs.getD i 0)) := by
  rcases h.2 with ⟨_, h0⟩ | ⟨g, cap, cur, h1, hB, hg, hn, hcap, hsz, htk⟩
  · exact absurd (List.length_eq_zero_iff.1 h0) hx
  · refine ⟨g, cap, h1, fun i hi => ?_⟩
    rw [Nat.zero_add, Joins.cell_of_block hg i]
    have e : cur.toList[i]? = (xs.map (Value.int .u8))[i]? := by
      rw [← htk, List.getElem?_take, if_pos (by omega)]
    rw [← Array.getElem?_toList, e, List.getElem?_map, List.getElem?_eq_getElem hi]
    simp [hi]

set_option maxRecDepth 100000 in
set_option maxHeartbeats 1000000 in
theorem iTxt_any (p : Int) (t : Nat → Int) (w : World) :
    Calls Try.prog 20 #[mv p t] w fun e w' => e = .returned (txtV p t) ∧ Below w.heap.size w w' := by
  have HL := fun w => iis_any p t w
  cases hv : isB p t
  · have hV : txtV p t = .tuple #[.string ⟨#[]⟩, .int .i64 1] := by unfold txtV; rw [if_neg (by rw [hv]; exact Bool.false_ne_true)]
    rw [hV]
    rw [hv] at HL
    have HL := Lib.hid HL
    clear hV
    simp only [mv, mcells]
    go_enter Try.func20, Try.ntmps20
    go_wp2_with fail
    (refine (HL.out _).mono ?_; rintro e w1 ⟨rfl, hb⟩; obtain ⟨hc, hf⟩ := bcell hb; have hz := hb.size; have Hb := Lib.hid hb; (try simp at hz hc hf); (try (have hy := Nat.lt_of_succ_le hz)); have hz0 : w.heap.size < w1.heap.size := (by omega); clear hb)
    go_wp2_with fail
    go_ret2
    refine ⟨rfl, ?_⟩
    (repeat' (first | (with_reducible exact Below.refl _ _) | (with_reducible refine Below.alloc ?_ ?_ _) | (with_reducible refine Below.setCell ?_ ?_ _) | (with_reducible refine Below.drew ?_) | (with_reducible refine below_drewN ?_ _) | (with_reducible refine Below.trans ?_ (Below.mono (Hid.out (by assumption)) ?_)) | omega | (simp; done) | (simp; omega)))
  · have hV : txtV p t = .tuple #[.string (txtK t p.toNat), .int .i64 0] := by unfold txtV; rw [if_pos hv]
    rw [hV]
    rw [hv] at HL
    obtain ⟨h1, h5⟩ := isB_pts hv
    obtain ⟨m, rfl⟩ := Int.eq_ofNat_of_zero_le (show 0 ≤ p by omega)
    simp only [Int.toNat_natCast]
    have hm5 : m ≤ 5 := by omega
    have hm1 : 1 ≤ m := by omega
    have HV := Lib.hid hv
    have HL := Lib.hid HL
    clear hv hV
    obtain ⟨i0, hi, hz0', hz1', hz2'⟩ := info_parts info_u8
    simp only [mv, mcells]
    go_enter Try.func20, Try.ntmps20
    go_wp2_with fail
    (refine (HL.out _).mono ?_; rintro e w1 ⟨rfl, hb⟩; obtain ⟨hc, hf⟩ := bcell hb; have hz := hb.size; have Hb := Lib.hid hb; (try simp at hz hc hf); (try (have hy := Nat.lt_of_succ_le hz)); have hz0 : w.heap.size < w1.heap.size := (by omega); clear hb)
    obtain ⟨wo, hwo⟩ : ∃ wo, wo = w1 := ⟨_, rfl⟩
    subst hwo
    go_wp2_with fail
    go_loopw [4, 6, 15] (fun v _ i wr => ∃ k : Nat, k ≤ m ∧ i = .int .i64 k ∧ wr.ownsRow (w.heap.size + 1) 5 1 v (dgn t k).length ((dgn t k).map (Value.int .u8)) ∧ Below (w.heap.size + 1) (w.alloc (.cells (mcells (m : Int) t) 26)) wr) (fun _ _ i _ => m - (intOf i).toNat)
    case atStart => exact ⟨0, by omega, rfl, World.ownsRow_nil _ _ _ _, by simpa using Hb.out⟩
    case round =>
      clear hc hf hz hz0 hy Hb
      obtain ⟨k, hk, rfl, hown, hb⟩ := hrel
      have hsz := hb.size
      simp at hsz
      have Hb := Lib.hid hb
      have hlen := dgn_len t k
      by_cases hkm : k < m
      · have hkm' : (k : Int) < (m : Int) := by omega
        obtain ⟨f0, f1, k5⟩ := ok_at HV.out k hkm'
        have f5 : t k < 5 := by omega
        have hc := (new_cell hb (Nat.lt_succ_self _) (1 + k)).trans (mcells_at _ t k k5)
        clear hb
        have HDS := Lib.hid (dgn_succ t k)
        generalize t k = X at *
        go_wp2_with (at_builtin; refine wpList_append_own _ rfl _ _ 22 rfl (w.heap.size + 1) 5 i0 (.int .u8 0) 1 1 Try.underlying22 hi hz0' hz1' hz2' rfl (by decide) _ _ _ rfl (hown.alloc _) ⟨wr.heap.size, 0, none⟩ 1 1 [.int .u8 (48 + X)] rfl rfl (cell_one_new _ _ _) (ints_oneCell .u8 [48 + X]) (by unfold maxLen; omega) (by omega) (by simp; omega) ?_; intro v' w2 hown' hgrow2 _)
        have HO2 := Lib.hid hown'
        have s2 := hgrow2.size
        simp at s2
        have HB2 : Hid (Below (w.heap.size + 1) (w.alloc (.cells (mcells (m : Int) t) 26)) w2) := Lib.hid ((Hb.out.alloc (by omega) _).grown hgrow2 (by simp; omega) (fun j hj => (hown.lt j hj).1))
        clear hown hown' hgrow2
        go_roundw
        case rel =>
          refine ⟨k + 1, by omega, by go_num, ?_, HB2.out⟩
          rw [HDS.out]; simpa using HO2.out
        case measure => simp [intOf]; omega
      · obtain rfl : k = m := by omega
        obtain ⟨g, cap, rfl, hcs⟩ := u8_cells hown (fun e => by rw [e] at hlen; simp at hlen; omega)
        have HT := Lib.hid (dgn_txt t k (fun i hi => (ok_at HV.out i (by omega)).1))
        have hcv := run_convert_bytes_arg wr 22 5 Try.underlying22 Try.underlying5 g 0 (dgn t k).length cap (dgn t k) rfl hcs 9 Try.underlying9
        rw [HT.out, hlen] at hcv
        clear hcs hown hb
        go_wp2_with fail
        go_ret2
        exact ⟨rfl, bel_new Hb.out (by omega)⟩

end Go.Proofs.Ytooeiafkhdiepaa
