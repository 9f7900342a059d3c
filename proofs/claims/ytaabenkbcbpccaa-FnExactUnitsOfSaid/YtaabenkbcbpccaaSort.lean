/- slices.SortFunc at the elements of a search: they lie in order. -/
import Derived.Test.YtaabenkbcbpccaaSlay
import Derived.Test.YtaabenkbcbpccaaIcmx
import Derived.Test.YtaabenkbcbpccaaMhas
namespace Go.Proofs.Ytaabenkbcbpccaa
open Go.RowKit
open Go.Sort hiding Below

theorem dcd_mod (c : Nat) : dcd (c % 3125) = dcd c := by
  funext i
  rcases i with _ | _ | _ | _ | _ | i <;> simp only [dcd] <;> omega

/-- How compareMaps tells two numbers apart. -/
def cfM (x y : Nat) : Int := cm (dcd x) (dcd y) 5

theorem cfM_eq (x y : Nat) : cfM x y = sg ((x % 3125 : Nat) : Int) ((y % 3125 : Nat) : Int) := by
  unfold cfM
  rw [← dcd_mod x, ← dcd_mod y]
  exact cm_num (Nat.mod_lt _ (by decide)) (Nat.mod_lt _ (by decide))

theorem ltM (x y : Nat) : ltOf cfM x y = decide (x % 3125 < y % 3125) := by
  unfold ltOf
  rw [cfM_eq]
  apply decide_eq_decide.2
  unfold sg
  split
  · omega
  · split <;> omega

theorem swoM : Go.Sort.SWO (ltOf cfM) where
  irrefl x := by rw [ltM]; simp
  trans x y z h1 h2 := by rw [ltM] at *; simp at *; omega
  ntrans x y z h1 h2 := by rw [ltM] at *; simp at *; omega

/-- A map's cells by its number. -/
def encM (p : Int) (c : Nat) : List Value := mcl (p, dcd c)

theorem cmpM (p : Int) (blk off size : Nat) (w : World) : CmpLays Try.prog 65 #[] (encM p) 6 cfM blk off size w := fun m os dk _ x y => by
  have h := icm_d p p (dcd x) (dcd y) (sortWorldK (encM p) 6 w blk off m dk os)
  have e : orV (sg p p) (cm (dcd x) (dcd y) 5) = cfM x y := by unfold orV; rw [if_pos (sg_self p)]; rfl
  rw [e] at h
  exact h.mono fun _ _ ⟨h1, h2⟩ => ⟨h1, belD_grow h2⟩

theorem encM_at (p : Int) (c i : Nat) (hi : i < 6) : (mcl (p, dcd c))[i]? = some (encM p c)[i]! := by
  rcases (by omega : i = 0 ∨ i = 1 ∨ i = 2 ∨ i = 3 ∨ i = 4 ∨ i = 5) with rfl | rfl | rfl | rfl | rfl | rfl <;> rfl

theorem holdsM {w : World} {p : Int} {g : Nat} {E : List Nat} {T : TypeId} {cur : Array Value} (hat : ∀ j, j < (mE p E).length → AtM w g 0 j ((mE p E).getD j z0)) (hb : w.heap[g]? = some (.cells cur T (0, 0))) : HoldsK (encM p) 6 w g 0 E.toArray := by
  intro j hj
  rw [size_flatK] at hj
  have hj' : j < E.length * 6 := by simpa using hj
  refine ⟨?_, Joins.unfrozen_of_block hb _⟩
  rw [get_flatK _ _ _ _ hj]
  have h := hat (j / 6) (by rw [mE_len]; omega)
  rw [mE_at p E _ (by omega)] at h
  have h2 := atM_cell h (Nat.mod_lt j (by decide)) (encM_at p (E.getD (j / 6) 0) (j % 6) (Nat.mod_lt j (by decide)))
  have e1 : 0 + j / 6 * 6 + j % 6 = 0 + j := by omega
  rw [e1] at h2
  have e2 : E.toArray[j / 6]! = E.getD (j / 6) 0 := by
    rw [List.getD_eq_getElem?_getD]
    simp [show j / 6 < E.length by omega]
  rw [e2]
  exact h2

set_option maxRecDepth 100000 in
set_option maxHeartbeats 1000000 in
theorem sort_any {p : Int} {E : List Nat} {gE cE B : Nat} (hv : ∀ c ∈ E, vld p c) (hnd : E.Nodup) (hE : E.length ≤ 1000) (h0 : E ≠ []) (w : World) (hown : OwnM w B (.slice (some ⟨gE, 0, none⟩) E.length cE) (mE p E)) :
    Calls Try.prog 64 #[.slice (some ⟨gE, 0, none⟩) E.length cE, .func (.func 65) #[] #[]] w fun e w' =>
      e = .returned (.tuple #[]) ∧ PutRow w' B gE cE (mE p (srtE E)) ∧ Turn w w' (fun k => k = gE) := by
  obtain ⟨g2, c2, e2, hput⟩ := ownM_put hown (by rw [mE_len]; omega) (by intro e; exact h0 (List.length_eq_zero_iff.1 (by rw [← mE_len p E, e]; rfl)))
  injection e2 with e2 _ e3
  injection e2 with e2
  injection e2 with e2
  subst e2 e3
  obtain ⟨cur, hcur⟩ := hput.ty
  have hH := holdsM hput.cells hcur
  have hgl := hput.hi
  have eg : ∀ args w, (callFunc 65 args).run Try.prog w = .ok (.enter 65 args) w := enters_of Try.func65 (by kernel_rfl) rfl
  have hcon := AnyQ.slices_SortFunc sortM 6 Try.isAgg27 Try.sizeOf27 (encM p) (fun _ => rfl) (fun x v hv => by simp [encM, mcl] at hv; rcases hv with rfl | rfl | rfl | rfl | rfl | rfl <;> rfl) cfM swoM 65 #[] gE 0 cE E.toArray w eg (cmpM p gE 0 E.toArray.size w) hH hgl (by simp; omega)
  change Calls Try.prog 64 _ _ _ at hcon
  rw [List.size_toArray] at hcon
  refine hcon.mono ?_
  rintro e w' ⟨he, d', n, os, hperm, hsort, rfl⟩
  refine ⟨he, ?_, ?_⟩
  · have hsz : d'.size = E.length := by have := hperm.1; simpa using this
    have hp2 : d'.toList.Perm E := by
      have h := hperm.2.2
      have ht : List.take E.length d'.toList = d'.toList := List.take_of_length_le (by simp; omega)
      simp at h
      rw [ht] at h
      exact h
    have hgetD : ∀ i, i < E.length → d'[i]! = d'.toList.getD i 0 := fun i hi => by
      rw [List.getD_eq_getElem?_getD]
      simp [show i < d'.size by omega]
    have hmem : ∀ i, i < E.length → d'.toList.getD i 0 ∈ E := fun i hi => hp2.mem_iff.1 (getD_mem (by simp; omega))
    have hs : srtd d'.toList := by
      unfold srtd
      rw [List.pairwise_iff_getElem]
      intro i j hi hj hij
      simp at hi hj
      have h := hsort i j (Nat.zero_le _) hij (by omega)
      rw [ltM, decide_eq_false_iff_not, hgetD i (by omega), hgetD j (by omega)] at h
      have v1 := (hv _ (hmem i (by omega))).1
      have v2 := (hv _ (hmem j (by omega))).1
      rw [Nat.mod_eq_of_lt v1, Nat.mod_eq_of_lt v2] at h
      rw [List.getD_eq_getElem?_getD, List.getElem?_eq_getElem (by simp; omega), List.getD_eq_getElem?_getD, List.getElem?_eq_getElem (by simp; omega)] at h
      have hne : d'.toList[i] ≠ d'.toList[j] := fun e => by
        have hn2 := hp2.nodup_iff.2 hnd
        have := List.nodup_iff_pairwise_ne.1 hn2
        exact (List.pairwise_iff_getElem.1 this i j (by simp; omega) (by simp; omega) hij) e
      simp only [Option.getD_some] at h
      omega
    have hEq : d'.toList = srtE E := srt_unique hs (srtE_srt E) (fun x => by rw [hp2.mem_iff, srtE_mem])
    have hlen : (srtE E).length = E.length := srtE_len E hnd
    have hblk : (Go.Sort.grow (putRowK (encM p) 6 (Go.Sort.ahead w n) gE 0 d') os).heap[gE]? = some (.cells (Go.Sort.putCells id 0 (flatK (encM p) 6 d') cur) 27 (0, 0)) := by
      have hgl2 : gE < (putRowK (encM p) 6 (Go.Sort.ahead w n) gE 0 d').heap.size := by simp [putRowK, putRow, mapBlock]; exact hgl
      show ((putRowK (encM p) 6 (Go.Sort.ahead w n) gE 0 d').heap ++ os)[gE]? = _
      rw [Array.getElem?_append_left hgl2]
      simp [putRowK, putRow, mapBlock, Array.getElem?_modify, hcur, onCells]
    have hH2 : HoldsK (encM p) 6 (Go.Sort.grow (putRowK (encM p) 6 (Go.Sort.ahead w n) gE 0 d') os) gE 0 d' := by
      refine holdsK_grow _ _ _ _ _ _ _ (by simp [putRowK, putRow, mapBlock]; exact hgl) ?_
      exact holdsK_putRowK _ _ _ _ _ E.toArray d' (holdsK_ahead _ _ _ _ _ _ _ hH) (by rw [hsz]; simp)
    refine ⟨by have := hput.le; rw [mE_len] at *; omega, hput.mx, hput.lo, (Array.getElem?_eq_some_iff.1 hblk).1, fun j hj => ?_, _, hblk⟩
    rw [mE_len, hlen] at hj
    rw [mE_at p _ j (by omega), ← hEq, ← hgetD j hj]
    have c := fun i hi => (hH2.cell (i := j) (c := i) (by omega) hi).1
    exact ⟨c 0 (by omega), c 1 (by omega), c 2 (by omega), c 3 (by omega), c 4 (by omega), c 5 (by omega)⟩
  · refine ⟨rfl, rfl, rfl, ?_, fun k hk hS => ?_⟩
    · show w.heap.size ≤ ((putRowK (encM p) 6 (Go.Sort.ahead w n) gE 0 d').heap ++ os).size
      simp [putRowK, putRow, mapBlock]
    · show ((putRowK (encM p) 6 (Go.Sort.ahead w n) gE 0 d').heap ++ os)[k]? = _
      rw [Array.getElem?_append_left (by simp [putRowK, putRow, mapBlock]; exact hk)]
      simp [putRowK, putRow, mapBlock, Array.getElem?_modify, show ¬ gE = k from fun e => hS e.symm]

end Go.Proofs.Ytaabenkbcbpccaa
