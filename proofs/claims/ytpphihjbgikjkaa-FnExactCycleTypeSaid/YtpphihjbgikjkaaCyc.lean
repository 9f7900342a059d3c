/- Cycles: the contracts of impl.cycleOf, of its step, and of the size and the least number of an orbit of numbers. -/
import Derived.Test.YtpphihjbgikjkaaObi
import Derived.Test.YtpphihjbgikjkaaMnf
import Derived.Test.YtpphihjbgikjkaaPowx
namespace Go.Proofs.Ytpphihjbgikjkaa
open Go Go.RowKit

/-- One step of a map. -/
def stp (t : Nat → Int) (x : Nat) : Nat := (t x).toNat
theorem stp_ok {n : Nat} {t : Nat → Int} (h : isB (n : Int) t = true) {x : Nat} (hx : x < n) : stp t x < n ∧ (stp t x : Int) = t x := by
  have := ok_at h x (by omega)
  unfold stp
  omega

theorem icst_any (n : Nat) (t : Nat → Int) (ht : isB (n : Int) t = true) (x : Nat) (hx : x < n) (bx : Nat) (w : World) (hb : w.heap[bx]? = some (.cells (mcells (n : Int) t) 28 (0, 0))) :
    Calls Try.prog 54 #[.int .i64 (x : Int), .pointer (some ⟨bx, 0, none⟩)] w fun e w' => e = .returned (.int .i64 (stp t x : Int)) ∧ w' = w := by
  have h5 := (isB_pts ht).2
  have e0 := blk_at hb x (by omega)
  have hx5 : (x : Int) < 5 := by omega
  rw [(stp_ok ht hx).2]
  clear hb ht
  go_enter Try.func54, Try.ntmps54
  go_wp2_with fail
  go_ret
  exact ⟨rfl, rfl⟩

set_option maxRecDepth 100000 in
set_option maxHeartbeats 1000000 in
theorem icyo_any (n : Nat) (t : Nat → Int) (ht : isB (n : Int) t = true) (c : Nat) (hc : c < n) (w : World) :
    Calls Try.prog 28 #[mv (n : Int) t, .int .i64 (c : Int)] w (RetOrbI n (stp t) c w.heap.size w) := by
  have h5 := (isB_pts ht).2
  obtain ⟨wz, hwz⟩ : ∃ wz, wz = ((w.alloc (.cells (mcells (n : Int) t) 28)).alloc (.cells #[.slice none 0 0] 51)).alloc (.cells #[.func (.func 54) #[] #[.pointer (some ⟨w.heap.size, 0, none⟩)]] 83) := ⟨_, rfl⟩
  have hsz : wz.heap.size = w.heap.size + 3 := by rw [hwz]; simp
  have hbx : wz.heap[w.heap.size]? = some (.cells (mcells (n : Int) t) 28 (0, 0)) := by rw [hwz]; exact (halloc_lt _ _ _ (by simp; omega)).trans ((halloc_lt _ _ _ (by simp)).trans (halloc_at _ _ _ rfl))
  have hbr : wz.heap[w.heap.size + 1]? = some (.cells #[.slice none 0 0] 51 (0, 0)) := by rw [hwz]; exact (halloc_lt _ _ _ (by simp)).trans (halloc_at _ _ _ (by simp))
  have hbs : wz.heap[w.heap.size + 1 + 1]? = some (.cells #[.func (.func 54) #[] #[.pointer (some ⟨w.heap.size, 0, none⟩)]] 83 (0, 0)) := by rw [hwz]; exact halloc_at _ _ _ (by simp)
  have HBZ : Hid (Below w.heap.size w wz) := Lib.hid (by rw [hwz]; (repeat' (first | (with_reducible exact Below.refl _ _) | (with_reducible refine Below.alloc ?_ ?_ _) | (with_reducible refine Below.setCell ?_ ?_ _) | (with_reducible refine Below.drew ?_) | (with_reducible refine below_drewN ?_ _) | (with_reducible refine Below.trans ?_ (Below.mono (Hid.out (by assumption)) ?_)) | omega | (simp; done) | (simp; omega))))
  have HO := Lib.hid (iobi_any n (stp t) c hc (by omega) (fun x hx => (stp_ok ht hx).1) (w.heap.size + 1 + 1) w.heap.size wz hbs (fun x hx W hW => icst_any n t ht x hx w.heap.size W ((hW.block _ (by omega)).trans hbx)))
  have HBR := Lib.hid hbr
  have HSZ := Lib.hid hsz
  clear hbx hbs hbr ht hsz
  simp only [mv, mcells] at *
  go_enter Try.func28, Try.ntmps28
  go_wp2_with fail
  rw [← hwz]
  clear hwz
  refine HO.out.mono ?_
  rintro e w2 ⟨a, cap, E, rfl, hrd, horb, hb⟩
  have hszz := HSZ.out
  have hr2 := (hb.block (w.heap.size + 1) (by omega)).trans HBR.out
  have hs2 := hb.size
  have e0 := Joins.cell_of_block hr2 0
  have hfr := Joins.unfrozen_of_block hr2 0
  simp only [List.getElem?_toArray, List.getElem?_cons_zero] at e0
  have HB2 : Hid (Below w.heap.size w w2) := Lib.hid (HBZ.out.trans (hb.mono (by omega)))
  have HRD := Lib.hid hrd
  have HOR := Lib.hid horb
  clear hrd horb hb hr2 hszz
  go_wp2_with fail
  refine bodyPost_ret (v := .agg #[.slice a E.length cap]) (by simp [results, Try.results28, go_sem, *]) rfl ⟨a, cap, E, rfl, (Rd.setLow9 HRD.out (by have := HSZ.out; omega)).mono (by have := HSZ.out; omega), HOR.out, HB2.out.setCell (by simp) _⟩

theorem iosz_any (a : Option Addr) (n cap : Nat) (w : World) :
    Calls Try.prog 29 #[.agg #[.slice a n cap]] w fun e w' => e = .returned (.int .i64 (n : Int)) ∧ Below w.heap.size w w' := by
  go_enter Try.func29, Try.ntmps29
  go_wp2_with fail
  go_ret
  exact ⟨rfl, (Below.refl _ _).alloc (Nat.le_refl _) _⟩

theorem iole_any (L : List Int) (hL : L ≠ []) (hn : L.length ≤ 2000000) (a : Option Addr) (cap : Nat) (w : World) (h : InRow w a L) :
    Calls Try.prog 52 #[.agg #[.slice a L.length cap], .func (.func 32) #[] #[]] w fun e w' => e = .returned (.int .i64 (mnL L)) ∧ Below w.heap.size w w' := by
  have H := Lib.hid fun w h => minf_any L hL hn a cap w h
  have HI := Lib.hid h
  clear h hL
  generalize L.length = n at *
  go_enter Try.func52, Try.ntmps52
  go_wp2_with fail
  refine (H.out _ (HI.out.below ((Below.refl _ _).alloc (Nat.le_refl _) _))).mono ?_
  rintro e w2 ⟨rfl, rfl⟩
  go_wp2_with fail
  go_ret
  exact ⟨rfl, (Below.refl _ _).alloc (Nat.le_refl _) _⟩

end Go.Proofs.Ytpphihjbgikjkaa
