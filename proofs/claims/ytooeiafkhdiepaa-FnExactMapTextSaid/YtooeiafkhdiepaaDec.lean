/- Texts of maps: the contracts of spec.l01Dec at one digit, spec.l01Text and spec.MapText. -/
import Derived.Test.YtooeiafkhdiepaaAsc
import Derived.Test.YtooeiafkhdiepaaSl
import Derived.Laws.IdiomStrings
import Derived.Laws.BytesArg
import Derived.Laws.Concat
namespace Go.Proofs.Ytooeiafkhdiepaa
open Go.RowKit

theorem ret_s {a b : ByteArray} (h : a = b) : Ending.returned (.string a) = .returned (.string b) := by rw [h]

/-- A digit. -/
def dg (n : Int) : UInt8 := UInt8.ofNat (48 + n.toNat)

/-- The digits of the first k images. -/
def dgs (t : Nat → Int) (k : Nat) : List UInt8 := (List.range k).map fun i => dg (t i)

def txtK (t : Nat → Int) (k : Nat) : ByteArray := ⟨(dgs t k).toArray⟩

theorem dgs_len (t : Nat → Int) (k : Nat) : (dgs t k).length = k := by simp [dgs]

theorem dgs_succ (t : Nat → Int) (k : Nat) : dgs t (k + 1) = dgs t k ++ [dg (t k)] := by simp [dgs, List.range_succ]

theorem conv1 (c : Nat) (hc : c < 256) (w : World) :
    (convert 22 9 (.slice (some ⟨w.heap.size, 0, none⟩) 1 1)).run Try.prog (w.alloc (.cells #[.int .u8 (c : Int)] 5)) = .ok (.string ⟨#[UInt8.ofNat c]⟩) (w.alloc (.cells #[.int .u8 (c : Int)] 5)) := by
  have h := run_convert_bytes_back (w.alloc (.cells #[.int .u8 (c : Int)] 5)) 22 9 5 ⟨w.heap.size, 0, none⟩ 1 [UInt8.ofNat c] Try.underlying22 Try.underlying5 Try.underlying9 (fun j hj => by
    obtain rfl : j = 0 := by simpa using hj
    have e : ((UInt8.ofNat c).toNat : Int) = (c : Int) := by simp; omega
    show (w.alloc _).cell? ⟨w.heap.size, 0, none⟩ = some (.int .u8 ((UInt8.ofNat c).toNat : Int))
    rw [e]
    exact World.cell?_alloc_new (w := w) _ _ 0)
  exact h

theorem conv48 (w : World) : (convert 22 9 (.slice (some ⟨w.heap.size, 0, none⟩) 1 1)).run Try.prog (w.alloc (.cells #[.int .u8 48] 5)) = .ok (.string ⟨#[dg 0]⟩) (w.alloc (.cells #[.int .u8 48] 5)) := conv1 48 (by omega) w
theorem conv49 (w : World) : (convert 22 9 (.slice (some ⟨w.heap.size, 0, none⟩) 1 1)).run Try.prog (w.alloc (.cells #[.int .u8 49] 5)) = .ok (.string ⟨#[dg 1]⟩) (w.alloc (.cells #[.int .u8 49] 5)) := conv1 49 (by omega) w
theorem conv50 (w : World) : (convert 22 9 (.slice (some ⟨w.heap.size, 0, none⟩) 1 1)).run Try.prog (w.alloc (.cells #[.int .u8 50] 5)) = .ok (.string ⟨#[dg 2]⟩) (w.alloc (.cells #[.int .u8 50] 5)) := conv1 50 (by omega) w
theorem conv51 (w : World) : (convert 22 9 (.slice (some ⟨w.heap.size, 0, none⟩) 1 1)).run Try.prog (w.alloc (.cells #[.int .u8 51] 5)) = .ok (.string ⟨#[dg 3]⟩) (w.alloc (.cells #[.int .u8 51] 5)) := conv1 51 (by omega) w
theorem conv52 (w : World) : (convert 22 9 (.slice (some ⟨w.heap.size, 0, none⟩) 1 1)).run Try.prog (w.alloc (.cells #[.int .u8 52] 5)) = .ok (.string ⟨#[dg 4]⟩) (w.alloc (.cells #[.int .u8 52] 5)) := conv1 52 (by omega) w

set_option maxRecDepth 100000 in
theorem sdec_any (n : Int) (h0 : 0 ≤ n) (h5 : n < 5) (w : World) :
    Calls Try.prog 123 #[.int .i64 n] w fun e w' => e = .returned (.string ⟨#[dg n]⟩) ∧ Below w.heap.size w w' := by
  rcases (by omega : n = 0 ∨ n = 1 ∨ n = 2 ∨ n = 3 ∨ n = 4) with rfl | rfl | rfl | rfl | rfl
  · have hcv := conv48 w
    generalize dg 0 = D at *
    go_enter Try.func123, Try.ntmps123
    go_wp2_with fail
    go_ret
    exact ⟨rfl, (Below.refl _ _).alloc (Nat.le_refl _) _⟩
  · have hcv := conv49 w
    generalize dg 1 = D at *
    go_enter Try.func123, Try.ntmps123
    go_wp2_with fail
    go_ret
    exact ⟨rfl, (Below.refl _ _).alloc (Nat.le_refl _) _⟩
  · have hcv := conv50 w
    generalize dg 2 = D at *
    go_enter Try.func123, Try.ntmps123
    go_wp2_with fail
    go_ret
    exact ⟨rfl, (Below.refl _ _).alloc (Nat.le_refl _) _⟩
  · have hcv := conv51 w
    generalize dg 3 = D at *
    go_enter Try.func123, Try.ntmps123
    go_wp2_with fail
    go_ret
    exact ⟨rfl, (Below.refl _ _).alloc (Nat.le_refl _) _⟩
  · have hcv := conv52 w
    generalize dg 4 = D at *
    go_enter Try.func123, Try.ntmps123
    go_wp2_with fail
    go_ret
    exact ⟨rfl, (Below.refl _ _).alloc (Nat.le_refl _) _⟩

set_option maxHeartbeats 1000000 in
theorem stext_any (p : Int) (t : Nat → Int) (hf : isB p t = true) (w : World) :
    Calls Try.prog 97 #[mv p t] w fun e w' => e = .returned (.string (txtK t p.toNat)) ∧ Below w.heap.size w w' := by
  obtain ⟨h1, h5⟩ := isB_pts hf
  have HF := Lib.hid hf
  clear hf
  simp only [mv, mcells]
  go_enter Try.func97, Try.ntmps97
  go_wp2_with fail
  go_loopw [3, 4] (fun v i wr => ∃ (k : Nat), (k : Int) ≤ p ∧ i = .int .i64 k ∧ v = .string (txtK t k) ∧ Below (w.heap.size + 1) (w.alloc (.cells (mcells p t) 26)) wr) (fun _ i _ => (p - intOf i).toNat)
  case atStart => exact ⟨0, by omega, rfl, rfl, Below.refl _ _⟩
  case round =>
    obtain ⟨k, hk, rfl, rfl, hb⟩ := hrel
    have hp := (new_cell hb (Nat.lt_succ_self _) 0)
    simp only [mcells, List.getElem?_toArray, List.getElem?_cons_zero] at hp
    have hsz := hb.size
    simp at hsz
    by_cases hkp : (k : Int) < p
    · obtain ⟨f0, f1, k5⟩ := ok_at HF.out k hkp
      have f5 : t k < 5 := by omega
      have hc := (new_cell hb (Nat.lt_succ_self _) (1 + k)).trans (mcells_at p t k k5)
      have Hb := Lib.hid hb
      clear hb
      have hk5 : (k : Int) < 5 := by omega
      have hadd : ∀ w, (Op.stringOp .add (txtK t k) ⟨#[dg (t k)]⟩).run Try.prog w = .ok (.string (txtK t (k + 1))) w := fun w => by
        have := run_string_add_lists (P := Try.prog) w (dgs t k) [dg (t k)] (by rw [dgs_len]; omega) (by simp)
        rw [← dgs_succ] at this
        exact this
      have HD := Lib.hid fun w => sdec_any (t k) f0 f5 w
      generalize t k = X at *
      generalize txtK t k = A at *
      generalize hB : txtK t (k + 1) = B at *
      have HBB := Lib.hid hB
      clear hB
      generalize (⟨#[dg X]⟩ : ByteArray) = D at *
      go_wp2_with fail
      refine (HD.out _).mono ?_
      rintro e w2 ⟨rfl, hb2⟩
      have Hb2 := Lib.hid hb2
      clear hb2
      go_wp2_with fail
      go_roundw
      case rel => exact ⟨k + 1, by omega, by go_num, by rw [HBB.out], Hb.out.trans (Hb2.out.mono hsz)⟩
      case measure => simp [intOf]; omega
    · have hK : txtK t k = txtK t p.toNat := by rw [show p.toNat = k by omega]
      have HK := Lib.hid hK
      clear hK
      have Hb := Lib.hid hb
      clear hb
      go_wp2_with fail
      go_ret
      exact ⟨ret_s HK.out, bel_new Hb.out (by omega)⟩

def txtV (p : Int) (t : Nat → Int) : Value := if isB p t = true then .tuple #[.string (txtK t p.toNat), .int .i64 0] else .tuple #[.string ⟨#[]⟩, .int .i64 1]

theorem sTxt_any (p : Int) (t : Nat → Int) (w : World) :
    Calls Try.prog 40 #[mv p t] w fun e w' => e = .returned (txtV p t) ∧ Below w.heap.size w w' := by
  cases hv : isB p t
  · have hV : txtV p t = .tuple #[.string ⟨#[]⟩, .int .i64 1] := by unfold txtV; rw [if_neg (by rw [hv]; exact Bool.false_ne_true)]
    rw [hV]
    clear hV
    simp only [mv, mcells]
    go_enter Try.func40, Try.ntmps40
    go_wp2_with fail
    (refine (lis_any p t _).mono ?_; rintro e w1 ⟨rfl, hb⟩; obtain ⟨hc, hf⟩ := bcell hb; have hz := hb.size; have Hb := Lib.hid hb; (try simp at hz hc hf); (try (have hy := Nat.lt_of_succ_le hz)); have hz0 : w.heap.size < w1.heap.size := (by omega); clear hb)
    go_wp2_with fail
    go_ret2
    refine ⟨rfl, ?_⟩
    (repeat' (first | (with_reducible exact Below.refl _ _) | (with_reducible refine Below.alloc ?_ ?_ _) | (with_reducible refine Below.setCell ?_ ?_ _) | (with_reducible refine Below.drew ?_) | (with_reducible refine below_drewN ?_ _) | (with_reducible refine Below.trans ?_ (Below.mono (Hid.out (by assumption)) ?_)) | omega | (simp; done) | (simp; omega)))
  · have hV : txtV p t = .tuple #[.string (txtK t p.toNat), .int .i64 0] := by unfold txtV; rw [if_pos hv]
    rw [hV]
    clear hV
    have HV := Lib.hid fun w => stext_any p t hv w
    simp only [mv, mcells]
    go_enter Try.func40, Try.ntmps40
    go_wp2_with fail
    (refine (lis_any p t _).mono ?_; rintro e w1 ⟨rfl, hb⟩; obtain ⟨hc, hf⟩ := bcell hb; have hz := hb.size; have Hb := Lib.hid hb; (try simp at hz hc hf); (try (have hy := Nat.lt_of_succ_le hz)); have hz0 : w.heap.size < w1.heap.size := (by omega); clear hb)
    go_wp2_with fail
    (refine (HV.out _).mono ?_; rintro e w1 ⟨rfl, hb⟩; obtain ⟨hc, hf⟩ := bcell hb; have hz := hb.size; have Hb := Lib.hid hb; (try simp at hz hc hf); (try (have hy := Nat.lt_of_succ_le hz)); have hz0 : w.heap.size < w1.heap.size := (by omega); clear hb)
    go_wp2_with fail
    go_ret2
    refine ⟨rfl, ?_⟩
    (repeat' (first | (with_reducible exact Below.refl _ _) | (with_reducible refine Below.alloc ?_ ?_ _) | (with_reducible refine Below.setCell ?_ ?_ _) | (with_reducible refine Below.drew ?_) | (with_reducible refine below_drewN ?_ _) | (with_reducible refine Below.trans ?_ (Below.mono (Hid.out (by assumption)) ?_)) | omega | (simp; done) | (simp; omega)))
end Go.Proofs.Ytooeiafkhdiepaa
