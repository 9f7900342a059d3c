/- impl.compareMaps: the world grows alone, and the draws do not go back. slices.SortFunc at the elements of a search: they lie in order. The contract of impl.monoidOf: the elements in order, or the code. -/
import Derived.Test.YtiogagaclhjdaaaIcm
import Derived.Test.YtiogagaclhjdaaaNum
import Derived.Shelf.SlSortCmp.WholeK
import Derived.Test.YtiogagaclhjdaaaSlay
import Derived.Test.YtiogagaclhjdaaaMhas
import Derived.Test.YtiogagaclhjdaaaMeet
import Derived.Shelf.SlSortCmp.NoneTotal
namespace Go.Proofs.Ytiogagaclhjdaaa
open Go.RowKit

/-- The world has grown, draws are gone ahead; nothing else has turned. -/
def BelD (w w' : World) : Prop := Below w.heap.size w w' ∧ w.drawn ≤ w'.drawn

theorem belD_grow {w w' : World} (h : BelD w w') : ∃ q os, w' = Go.Sort.grow (w.drewN q) os := by
  obtain ⟨hb, hd⟩ := h
  refine ⟨w'.drawn - w.drawn, w'.heap.extract w.heap.size w'.heap.size, ?_⟩
  have hs := hb.size
  have hheap : w'.heap = w.heap ++ w'.heap.extract w.heap.size w'.heap.size := by
    apply Array.ext_getElem?
    intro k
    by_cases hk : k < w.heap.size
    · rw [Array.getElem?_append_left hk, hb.block k hk]
    · rw [Array.getElem?_append_right (by omega)]
      by_cases hk2 : k < w'.heap.size
      · rw [Array.getElem?_eq_getElem hk2, Array.getElem?_eq_getElem (by simp; omega)]
        simp only [Array.getElem_extract]
        congr 2
        omega
      · rw [Array.getElem?_eq_none (by omega), Array.getElem?_eq_none (by simp; omega)]
  have hdr : w.drawn + (w'.drawn - w.drawn) = w'.drawn := by omega
  cases w'
  simp only [Go.Sort.grow, World.drewN] at *
  simp only [World.mk.injEq]
  exact ⟨hheap, hb.tape, hdr.symm, hb.os, hb.output⟩

theorem cmp_d (a b : Int) (w : World) :
    Calls Try.prog 102 #[.int .i64 a, .int .i64 b] w fun e w' => e = .returned (.int .i64 (sg a b)) ∧ BelD w w' :=
  (cmp_any a b w).mono fun _ _ ⟨h, e⟩ => ⟨h, e ▸ ⟨Below.refl _ _, Nat.le_refl _⟩⟩

theorem scmp_d (p q : Int) (t u : Nat → Int) (T g1 g2 : Nat) (w : World) (h1 : w.heap[g1]? = some (.cells (mcells p t) T (0, 0))) (h2 : w.heap[g2]? = some (.cells (mcells q u) T (0, 0))) :
    Calls Try.prog 103 #[.slice (some ⟨g1, 1, none⟩) 5 5, .slice (some ⟨g2, 1, none⟩) 5 5] w fun e w' => e = .returned (.int .i64 (cm t u 5)) ∧ BelD w w' :=
  (scmp_any t u g1 g2 w (fun i hi => blk_at h1 i hi) (fun i hi => blk_at h2 i hi)).mono fun _ _ ⟨h, _, e⟩ => ⟨h, e ▸ ⟨below_drewN (Below.refl _ _) _, Nat.le_add_right _ _⟩⟩

theorem or_d (x y : Int) (T : Nat) (w : World) :
    Calls Try.prog 101 #[.slice (some ⟨w.heap.size, 0, none⟩) 2 2] (w.alloc (.cells #[.int .i64 x, .int .i64 y] T)) fun e w' => e = .returned (.int .i64 (orV x y)) ∧ BelD (w.alloc (.cells #[.int .i64 x, .int .i64 y] T)) w' :=
  (or_any x y w.heap.size _ (Joins.cell_of_block (halloc_at _ _ _ rfl) 0) (Joins.cell_of_block (halloc_at _ _ _ rfl) 1)).mono fun _ _ ⟨h, e⟩ => ⟨h, e ▸ ⟨Below.refl _ _, Nat.le_refl _⟩⟩

theorem drawn_alloc (w : World) (o : Obj) : (w.alloc o).drawn = w.drawn := rfl
theorem drawn_drew (w : World) : w.drew.drawn = w.drawn + 1 := rfl
theorem drawn_drewN (w : World) (n : Nat) : (w.drewN n).drawn = w.drawn + n := rfl

set_option maxHeartbeats 1000000 in
theorem icm_d (p q : Int) (f g : Nat → Int) (w : World) :
    Calls Try.prog 80 #[mv p f, mv q g] w fun e w' => e = .returned (.int .i64 (orV (sg p q) (cm f g 5))) ∧ BelD w w' := by
  have rf0 : ∀ x : World, x.heap[w.heap.size]? = some (.cells (mcells p f) 31 (0, 0)) → x.cell? ⟨w.heap.size, 0, none⟩ = some (.int .i64 p) := fun x h => (blk6 h).1
  have rf1 : ∀ x : World, x.heap[w.heap.size]? = some (.cells (mcells p f) 31 (0, 0)) → x.cell? ⟨w.heap.size, 1, none⟩ = some (.int .i64 (f 0)) := fun x h => (blk6 h).2.1
  have rf2 : ∀ x : World, x.heap[w.heap.size]? = some (.cells (mcells p f) 31 (0, 0)) → x.cell? ⟨w.heap.size, 2, none⟩ = some (.int .i64 (f 1)) := fun x h => (blk6 h).2.2.1
  have rf3 : ∀ x : World, x.heap[w.heap.size]? = some (.cells (mcells p f) 31 (0, 0)) → x.cell? ⟨w.heap.size, 3, none⟩ = some (.int .i64 (f 2)) := fun x h => (blk6 h).2.2.2.1
  have rf4 : ∀ x : World, x.heap[w.heap.size]? = some (.cells (mcells p f) 31 (0, 0)) → x.cell? ⟨w.heap.size, 4, none⟩ = some (.int .i64 (f 3)) := fun x h => (blk6 h).2.2.2.2.1
  have rf5 : ∀ x : World, x.heap[w.heap.size]? = some (.cells (mcells p f) 31 (0, 0)) → x.cell? ⟨w.heap.size, 5, none⟩ = some (.int .i64 (f 4)) := fun x h => (blk6 h).2.2.2.2.2
  have rg0 : ∀ x : World, x.heap[w.heap.size + 1]? = some (.cells (mcells q g) 31 (0, 0)) → x.cell? ⟨w.heap.size + 1, 0, none⟩ = some (.int .i64 q) := fun x h => (blk6 h).1
  have rg1 : ∀ x : World, x.heap[w.heap.size + 1]? = some (.cells (mcells q g) 31 (0, 0)) → x.cell? ⟨w.heap.size + 1, 1, none⟩ = some (.int .i64 (g 0)) := fun x h => (blk6 h).2.1
  have rg2 : ∀ x : World, x.heap[w.heap.size + 1]? = some (.cells (mcells q g) 31 (0, 0)) → x.cell? ⟨w.heap.size + 1, 2, none⟩ = some (.int .i64 (g 1)) := fun x h => (blk6 h).2.2.1
  have rg3 : ∀ x : World, x.heap[w.heap.size + 1]? = some (.cells (mcells q g) 31 (0, 0)) → x.cell? ⟨w.heap.size + 1, 3, none⟩ = some (.int .i64 (g 2)) := fun x h => (blk6 h).2.2.2.1
  have rg4 : ∀ x : World, x.heap[w.heap.size + 1]? = some (.cells (mcells q g) 31 (0, 0)) → x.cell? ⟨w.heap.size + 1, 4, none⟩ = some (.int .i64 (g 3)) := fun x h => (blk6 h).2.2.2.2.1
  have rg5 : ∀ x : World, x.heap[w.heap.size + 1]? = some (.cells (mcells q g) 31 (0, 0)) → x.cell? ⟨w.heap.size + 1, 5, none⟩ = some (.int .i64 (g 4)) := fun x h => (blk6 h).2.2.2.2.2
  simp only [mv, mcells] at *
  go_enter Try.func80, Try.ntmps80
  go_upto_region 1 with fail
  go_region_held3 (fun w' => w'.heap[w.heap.size]? = some (.cells (mcells p f) 31 (0, 0)) ∧ w'.heap[w.heap.size + 1]? = some (.cells (mcells q g) 31 (0, 0))) (first | ((try dsimp only); (try go_split_ands); (repeat' apply And.intro) <;> ((repeat' (first | omega | (rw [hdrew]) | (with_reducible assumption) | (with_reducible exact Hid.out (by assumption)) | (with_reducible rfl) | ((with_reducible refine halloc_at _ _ _ ?_) <;> (first | (with_reducible rfl) | omega | (simp; done))) | (with_reducible refine chain6 ?_) | (with_reducible refine Eq.trans (hset_ne _ _ _ _ ?_) ?_) | (with_reducible refine Eq.trans (halloc_lt _ _ _ ?_) ?_) | (with_reducible refine Eq.trans (Below.block (Hid.out (by assumption)) _ ?_) ?_) | (simp; done) | (simp; omega))); done)))
      (first
        | (go_at_call 102; (with_reducible refine (cmp_d p q _).mono ?_); rintro e w1 ⟨rfl, hb, hd⟩; skip; obtain ⟨hc, hf⟩ := bcell hb; have hz := hb.size; have Hb := Lib.hid hb; (try simp at hz hc hf); (try (have hy := Nat.lt_of_succ_le hz)); have hz0 : w.heap.size < w1.heap.size := (by omega); have hz1 : w.heap.size + 1 < w1.heap.size := (by omega); (try (have hz2 : w.heap.size + 1 + 1 < w1.heap.size := (by omega))); clear hb)
        | (go_at_call 103; (with_reducible refine (scmp_d p q f g 31 _ _ _ (by (repeat' (first | omega | (rw [hdrew]) | (with_reducible assumption) | (with_reducible exact Hid.out (by assumption)) | (with_reducible rfl) | ((with_reducible refine halloc_at _ _ _ ?_) <;> (first | (with_reducible rfl) | omega | (simp; done))) | (with_reducible refine chain6 ?_) | (with_reducible refine Eq.trans (hset_ne _ _ _ _ ?_) ?_) | (with_reducible refine Eq.trans (halloc_lt _ _ _ ?_) ?_) | (with_reducible refine Eq.trans (Below.block (Hid.out (by assumption)) _ ?_) ?_) | (simp; done) | (simp; omega)))) (by (repeat' (first | omega | (rw [hdrew]) | (with_reducible assumption) | (with_reducible exact Hid.out (by assumption)) | (with_reducible rfl) | ((with_reducible refine halloc_at _ _ _ ?_) <;> (first | (with_reducible rfl) | omega | (simp; done))) | (with_reducible refine chain6 ?_) | (with_reducible refine Eq.trans (hset_ne _ _ _ _ ?_) ?_) | (with_reducible refine Eq.trans (halloc_lt _ _ _ ?_) ?_) | (with_reducible refine Eq.trans (Below.block (Hid.out (by assumption)) _ ?_) ?_) | (simp; done) | (simp; omega))))).mono ?_); rintro e w1 ⟨rfl, hb, hd⟩; skip; obtain ⟨hc, hf⟩ := bcell hb; have hz := hb.size; have Hb := Lib.hid hb; (try simp at hz hc hf); (try (have hy := Nat.lt_of_succ_le hz)); have hz0 : w.heap.size < w1.heap.size := (by omega); have hz1 : w.heap.size + 1 < w1.heap.size := (by omega); (try (have hz2 : w.heap.size + 1 + 1 < w1.heap.size := (by omega))); clear hb)
        | (go_at_call 101; (with_reducible refine (or_d (sg p q) (cm f g 5) _ _).mono ?_); rintro e w1 ⟨rfl, hb, hd⟩; skip; obtain ⟨hc, hf⟩ := bcell hb; have hz := hb.size; have Hb := Lib.hid hb; (try simp at hz hc hf); (try (have hy := Nat.lt_of_succ_le hz)); have hz0 : w.heap.size < w1.heap.size := (by omega); have hz1 : w.heap.size + 1 < w1.heap.size := (by omega); (try (have hz2 : w.heap.size + 1 + 1 < w1.heap.size := (by omega))); clear hb))
  all_goals (go_wp2_with fail)
  all_goals go_ret
  all_goals refine ⟨rfl, ?_, ?_⟩
  all_goals first
    | (simp only [drawn_alloc, drawn_drew] at *; omega)
    | (repeat' (first | (with_reducible exact Below.refl _ _) | (with_reducible refine Below.alloc ?_ ?_ _) | (with_reducible refine Below.setCell ?_ ?_ _) | (with_reducible refine Below.drew ?_) | (with_reducible refine below_drewN ?_ _) | (with_reducible refine Below.trans ?_ (Below.mono (Hid.out (by assumption)) ?_)) | omega | (simp; done) | (simp; omega)))

end Go.Proofs.Ytiogagaclhjdaaa

namespace Go.Proofs.Ytiogagaclhjdaaa
open Go.RowKit
open Go.Sort hiding Below

theorem dcd_mod (c : Nat) : dcd (c % 3125) = dcd c := by
  funext i
  rcases i with _ | _ | _ | _ | _ | i <;> simp only [dcd] <;> omega

/-- How compareMaps tells two numbers apart. -/
def cfM (x y : Nat) : Int := cm (dcd x) (dcd y) 5

theorem cfM_eq (x y : Nat) : cfM x y = sg ((x % 3125 : Nat) : Int) ((y % 3125 : Nat) : Int) := by
  unfold cfM
  rw [← dcd_mod x, ← dcd_mod y]
  exact cm_num (Nat.mod_lt _ (by decide)) (Nat.mod_lt _ (by decide))

theorem ltM (x y : Nat) : ltOf cfM x y = decide (x % 3125 < y % 3125) := by
  unfold ltOf
  rw [cfM_eq]
  apply decide_eq_decide.2
  unfold sg
  split
  · omega
  · split <;> omega

theorem swoM : Go.Sort.SWO (ltOf cfM) where
  irrefl x := by rw [ltM]; simp
  trans x y z h1 h2 := by rw [ltM] at *; simp at *; omega
  ntrans x y z h1 h2 := by rw [ltM] at *; simp at *; omega

/-- A map's cells by its number. -/
def encM (p : Int) (c : Nat) : List Value := mcl (p, dcd c)

theorem cmpM (p : Int) (blk off size : Nat) (w : World) : CmpLays Try.prog 80 #[] (encM p) 6 cfM blk off size w := fun m os dk _ x y => by
  have h := icm_d p p (dcd x) (dcd y) (sortWorldK (encM p) 6 w blk off m dk os)
  have e : orV (sg p p) (cm (dcd x) (dcd y) 5) = cfM x y := by unfold orV; rw [if_pos (sg_self p)]; rfl
  rw [e] at h
  exact h.mono fun _ _ ⟨h1, h2⟩ => ⟨h1, belD_grow h2⟩

theorem encM_at (p : Int) (c i : Nat) (hi : i < 6) : (mcl (p, dcd c))[i]? = some (encM p c)[i]! := by
  rcases (by omega : i = 0 ∨ i = 1 ∨ i = 2 ∨ i = 3 ∨ i = 4 ∨ i = 5) with rfl | rfl | rfl | rfl | rfl | rfl <;> rfl

theorem holdsM {w : World} {p : Int} {g : Nat} {E : List Nat} {T : TypeId} {cur : Array Value} (hat : ∀ j, j < (mE p E).length → AtM w g 0 j ((mE p E).getD j z0)) (hb : w.heap[g]? = some (.cells cur T (0, 0))) : HoldsK (encM p) 6 w g 0 E.toArray := by
  intro j hj
  rw [size_flatK] at hj
  have hj' : j < E.length * 6 := by simpa using hj
  refine ⟨?_, Joins.unfrozen_of_block hb _⟩
  rw [get_flatK _ _ _ _ hj]
  have h := hat (j / 6) (by rw [mE_len]; omega)
  rw [mE_at p E _ (by omega)] at h
  have h2 := atM_cell h (Nat.mod_lt j (by decide)) (encM_at p (E.getD (j / 6) 0) (j % 6) (Nat.mod_lt j (by decide)))
  have e1 : 0 + j / 6 * 6 + j % 6 = 0 + j := by omega
  rw [e1] at h2
  have e2 : E.toArray[j / 6]! = E.getD (j / 6) 0 := by
    rw [List.getD_eq_getElem?_getD]
    simp [show j / 6 < E.length by omega]
  rw [e2]
  exact h2

set_option maxRecDepth 100000 in
set_option maxHeartbeats 1000000 in
theorem sort_any {p : Int} {E : List Nat} {gE cE B : Nat} (hv : ∀ c ∈ E, vld p c) (hnd : E.Nodup) (hE : E.length ≤ 1000) (h0 : E ≠ []) (w : World) (hown : OwnM w B (.slice (some ⟨gE, 0, none⟩) E.length cE) (mE p E)) :
    Calls Try.prog 79 #[.slice (some ⟨gE, 0, none⟩) E.length cE, .func (.func 80) #[] #[]] w fun e w' =>
      e = .returned (.tuple #[]) ∧ PutRow w' B gE cE (mE p (srtE E)) ∧ Turn w w' (fun k => k = gE) := by
  obtain ⟨g2, c2, e2, hput⟩ := ownM_put hown (by rw [mE_len]; omega) (by intro e; exact h0 (List.length_eq_zero_iff.1 (by rw [← mE_len p E, e]; rfl)))
  injection e2 with e2 _ e3
  injection e2 with e2
  injection e2 with e2
  subst e2 e3
  obtain ⟨cur, hcur⟩ := hput.ty
  have hH := holdsM hput.cells hcur
  have hgl := hput.hi
  have eg : ∀ args w, (callFunc 80 args).run Try.prog w = .ok (.enter 80 args) w := enters_of Try.func80 (by kernel_rfl) rfl
  have hcon := AnyQ.slices_SortFunc sortM 6 Try.isAgg31 Try.sizeOf31 (encM p) (fun _ => rfl) (fun x v hv => by simp [encM, mcl] at hv; rcases hv with rfl | rfl | rfl | rfl | rfl | rfl <;> rfl) cfM swoM 80 #[] gE 0 cE E.toArray w eg (cmpM p gE 0 E.toArray.size w) hH hgl (by simp; omega)
  change Calls Try.prog 79 _ _ _ at hcon
  rw [List.size_toArray] at hcon
  refine hcon.mono ?_
  rintro e w' ⟨he, d', n, os, hperm, hsort, rfl⟩
  refine ⟨he, ?_, ?_⟩
  · have hsz : d'.size = E.length := by have := hperm.1; simpa using this
    have hp2 : d'.toList.Perm E := by
      have h := hperm.2.2
      have ht : List.take E.length d'.toList = d'.toList := List.take_of_length_le (by simp; omega)
      simp at h
      rw [ht] at h
      exact h
    have hgetD : ∀ i, i < E.length → d'[i]! = d'.toList.getD i 0 := fun i hi => by
      rw [List.getD_eq_getElem?_getD]
      simp [show i < d'.size by omega]
    have hmem : ∀ i, i < E.length → d'.toList.getD i 0 ∈ E := fun i hi => hp2.mem_iff.1 (getD_mem (by simp; omega))
    have hs : srtd d'.toList := by
      unfold srtd
      rw [List.pairwise_iff_getElem]
      intro i j hi hj hij
      simp at hi hj
      have h := hsort i j (Nat.zero_le _) hij (by omega)
      rw [ltM, decide_eq_false_iff_not, hgetD i (by omega), hgetD j (by omega)] at h
      have v1 := (hv _ (hmem i (by omega))).1
      have v2 := (hv _ (hmem j (by omega))).1
      rw [Nat.mod_eq_of_lt v1, Nat.mod_eq_of_lt v2] at h
      rw [List.getD_eq_getElem?_getD, List.getElem?_eq_getElem (by simp; omega), List.getD_eq_getElem?_getD, List.getElem?_eq_getElem (by simp; omega)] at h
      have hne : d'.toList[i] ≠ d'.toList[j] := fun e => by
        have hn2 := hp2.nodup_iff.2 hnd
        have := List.nodup_iff_pairwise_ne.1 hn2
        exact (List.pairwise_iff_getElem.1 this i j (by simp; omega) (by simp; omega) hij) e
      simp only [Option.getD_some] at h
      omega
    have hEq : d'.toList = srtE E := srt_unique hs (srtE_srt E) (fun x => by rw [hp2.mem_iff, srtE_mem])
    have hlen : (srtE E).length = E.length := srtE_len E hnd
    have hblk : (Go.Sort.grow (putRowK (encM p) 6 (Go.Sort.ahead w n) gE 0 d') os).heap[gE]? = some (.cells (Go.Sort.putCells id 0 (flatK (encM p) 6 d') cur) 31 (0, 0)) := by
      have hgl2 : gE < (putRowK (encM p) 6 (Go.Sort.ahead w n) gE 0 d').heap.size := by simp [putRowK, putRow, mapBlock]; exact hgl
      show ((putRowK (encM p) 6 (Go.Sort.ahead w n) gE 0 d').heap ++ os)[gE]? = _
      rw [Array.getElem?_append_left hgl2]
      simp [putRowK, putRow, mapBlock, Array.getElem?_modify, hcur, onCells]
    have hH2 : HoldsK (encM p) 6 (Go.Sort.grow (putRowK (encM p) 6 (Go.Sort.ahead w n) gE 0 d') os) gE 0 d' := by
      refine holdsK_grow _ _ _ _ _ _ _ (by simp [putRowK, putRow, mapBlock]; exact hgl) ?_
      exact holdsK_putRowK _ _ _ _ _ E.toArray d' (holdsK_ahead _ _ _ _ _ _ _ hH) (by rw [hsz]; simp)
    refine ⟨by have := hput.le; rw [mE_len] at *; omega, hput.mx, hput.lo, (Array.getElem?_eq_some_iff.1 hblk).1, fun j hj => ?_, _, hblk⟩
    rw [mE_len, hlen] at hj
    rw [mE_at p _ j (by omega), ← hEq, ← hgetD j hj]
    have c := fun i hi => (hH2.cell (i := j) (c := i) (by omega) hi).1
    exact ⟨c 0 (by omega), c 1 (by omega), c 2 (by omega), c 3 (by omega), c 4 (by omega), c 5 (by omega)⟩
  · refine ⟨rfl, rfl, rfl, ?_, fun k hk hS => ?_⟩
    · show w.heap.size ≤ ((putRowK (encM p) 6 (Go.Sort.ahead w n) gE 0 d').heap ++ os).size
      simp [putRowK, putRow, mapBlock]
    · show ((putRowK (encM p) 6 (Go.Sort.ahead w n) gE 0 d').heap ++ os)[k]? = _
      rw [Array.getElem?_append_left (by simp [putRowK, putRow, mapBlock]; exact hk)]
      simp [putRowK, putRow, mapBlock, Array.getElem?_modify, show ¬ gE = k from fun e => hS e.symm]

end Go.Proofs.Ytiogagaclhjdaaa

namespace Go.Proofs.Ytiogagaclhjdaaa
open Go.RowKit Go.Maps

theorem sort_none (c : Nat) (fv : Value) (w : World) :
    Calls Try.prog 79 #[.slice none 0 c, fv] w fun e w' => e = .returned (.tuple #[]) ∧ w' = w := by
  have h := AnyF.slices_SortFunc_none sortM none c fv w
  exact h

/-- What impl.monoidOf leaves. -/
def RetMono (L O : List MapN) (w : World) (e : Ending) (w' : World) : Prop :=
  Below w.heap.size w w' ∧
    ((elsC L O ≠ 0 ∧ e = .returned (.tuple #[.agg #[.slice none 0 0, .map none], .int .i64 (elsC L O)])) ∨
     (elsC L O = 0 ∧ GoodL L ∧ ∃ gE cE b l, e = .returned (.tuple #[.agg #[.slice (some ⟨gE, 0, none⟩) (elsK L).length cE, .map (some b)], .int .i64 0]) ∧
       PutRow w' w.heap.size gE cE (mE (fst0 L) (elsK L)) ∧ MapN2 w' (fst0 L) b (elsK L).length l ∧ Mws w' w.heap.size (cfin (fst0 L) (codes L)).E (cfin (fst0 L) (codes L)).W l ∧ Cinv (fst0 L) (codes L) (cfin (fst0 L) (codes L))))

theorem elsC_bad {L O : List MapN} (h : chkC L O ≠ 0) : elsC L O = chkC L O := by unfold elsC; rw [if_neg h]

set_option maxRecDepth 100000 in
set_option maxHeartbeats 2000000 in
theorem mono_any (a1 a2 : Option Addr) (c1 c2 : Nat) (L O : List MapN) (h1 : a1 = none → c1 = 0) (h2 : a2 = none → c2 = 0) (hl1 : L.length ≤ 1048576) (hl2 : O.length ≤ 900000) (w : World) (hr1 : InRowM w a1 L) (hr2 : InRowM w a2 O) :
    Calls Try.prog 51 #[.slice a1 L.length c1, .slice a2 O.length c2] w (RetMono L O w) := by
  have hb0 : Below w.heap.size w (w.alloc (.cells #[.slice none 0 0, .map none] 48)) := (Below.refl _ _).alloc (Nat.le_refl _) _
  have HK := Lib.hid (check_any a1 a2 c1 c2 L O h1 h2 hl1 hl2 _ (hr1.below hb0) (hr2.below hb0))
  have HR := Lib.hid (hr1.below hb0)
  have HB0 := Lib.hid hb0
  clear hr1 hr2 hb0
  by_cases hc : chkC L O = 0
  · have hgood := (chk_good hc).1
    have hel : elsC L O = if 300 < (cfin (fst0 L) (codes L)).E.length then 3 else 0 := by unfold elsC; rw [if_pos hc]
    have hHK := HK.out
    rw [hc] at hHK
    have HK := Lib.hid hHK
    have HGOOD := Lib.hid hgood
    have HEL := Lib.hid hel
    have hn1 := hgood.n1
    have hn1' : (0 : Int) < (L.length : Int) := by omega
    have HMT := Lib.hid fun (z : World) (h : InRowM z a1 (mE (fst0 L) (codes L))) => meet_any hgood.p1 hgood.p5 hgood.vl (by rw [codes_len]; exact hgood.n6) a1 c1 z h
    simp only [codes_len] at HMT
    clear hc hHK hgood hel
    obtain ⟨b0, o0, rfl, hb0, hat0⟩ := HR.out.at0 (by omega)
    obtain ⟨x0, _, _, _, _, _⟩ := hat0
    have hl0 : (L.getD 0 z0).1 = fst0 L := rfl
    rw [hl0] at x0
    clear hl0
    go_enter Try.func51, Try.ntmps51
    go_wp2_with fail
    refine HK.out.mono ?_
    rintro e w1 ⟨rfl, hb⟩
    have hx1 := (hb.cell (p := ⟨b0, o0, none⟩) hb0).trans x0
    have HB1 := Lib.hid (HB0.out.trans (hb.mono (by simp)))
    have HRES1 : Hid (w1.heap[w.heap.size]? = some (.cells #[.slice none 0 0, .map none] 48 (0, 0))) := Lib.hid ((hb.block _ (by simp)).trans (halloc_at _ _ _ rfl))
    have HRN := Lib.hid (inRow_num HGOOD.out (HR.out.below hb))
    have hs1 : w.heap.size < w1.heap.size := by have := hb.size; simp at this; omega
    clear hb x0
    go_wp2_with fail
    refine (HMT.out _ HRN.out).mono ?_
    rintro e w2 ⟨hb2, hrf, htf, ⟨h300, rfl⟩ | ⟨h300, gE, cE, b, l, rfl, hown, hmap, hbm, hmws⟩⟩
    · have HB2 := Lib.hid hb2
      have hs2 := hb2.size
      have e3 : elsC L O = 3 := by rw [HEL.out, if_pos h300]
      have HE3 := Lib.hid e3
      have HRES2 : Hid (w2.heap[w.heap.size]? = some (.cells #[.slice none 0 0, .map none] 48 (0, 0))) := Lib.hid ((hb2.block _ hs1).trans HRES1.out)
      clear hb2 hrf htf h300 e3
      go_wp2_with fail
      refine (sort_none _ _ _).mono ?_
      rintro e w3 ⟨rfl, rfl⟩
      have hr3 : (w2.alloc (.cells #[.slice none 0 0, .map none] 48)).heap[w.heap.size]? = some (.cells #[.slice none 0 0, .map none] 48 (0, 0)) := (halloc_lt _ _ _ (by omega)).trans HRES2.out
      have hfr := blk_free hr3
      have d0 := Joins.cell_of_block hr3 0
      have d1 := Joins.cell_of_block hr3 1
      simp only [List.getElem?_toArray, List.getElem?_cons_zero, List.getElem?_cons_succ] at d0 d1
      have hbr := Joins.block_setCell (Joins.block_setCell hr3 (i := 0) (.slice none 0 0)) (i := 1) (.map none)
      have b0 := Joins.cell_of_block hbr 0
      have b1 := Joins.cell_of_block hbr 1
      have hbz : Below w.heap.size w (w2.alloc (.cells #[.slice none 0 0, .map none] 48)) := (HB1.out.trans (HB2.out.mono (by omega))).alloc (by omega) _
      go_wp2_with fail
      refine bodyPost_ret (v := .tuple #[.agg #[.slice none 0 0, .map none], .int .i64 3]) (by simp [results, Try.results51, go_sem, b0, b1]) rfl ?_
      exact ⟨(hbz.setCell (Nat.le_refl _) _).setCell (Nat.le_refl _) _, Or.inl ⟨by rw [HE3.out]; decide, by rw [HE3.out]⟩⟩
    · have hI := hrf.inv HGOOD.out.p1 HGOOD.out.p5 HGOOD.out.vl
      have HI := Lib.hid hI
      have HB2 := Lib.hid hb2
      have hs2 := hb2.size
      have e0 : elsC L O = 0 := by rw [HEL.out, if_neg (by omega)]
      have HE0 := Lib.hid e0
      have HRES2 : Hid (w2.heap[w.heap.size]? = some (.cells #[.slice none 0 0, .map none] 48 (0, 0))) := Lib.hid ((hb2.block _ hs1).trans HRES1.out)
      have hgl : gE < w2.heap.size := (hown.lt gE rfl).2
      have hgb : w1.heap.size ≤ gE := (hown.lt gE rfl).1
      have hHS := fun z (hz : Below w2.heap.size w2 z) => sort_any hI.vl hI.nd (by omega) (by intro e; have := hI.one; rw [e] at this; simp at this) z (ownM_bel hown hz)
      have HHS := Lib.hid hHS
      have HMAP := Lib.hid hmap
      have HMWS := Lib.hid hmws
      have hlen : (elsK L).length = (cfin (fst0 L) (codes L)).E.length := srtE_len _ hI.nd
      have HLEN := Lib.hid hlen
      have HOWN := Lib.hid hown
      clear hb2 hrf htf hI e0 hHS hmap hmws hlen hown
      go_wp2_with fail
      refine (HHS.out _ ((Below.refl _ _).alloc (Nat.le_refl _) _)).mono ?_
      rintro e w3 ⟨rfl, hput, hturn⟩
      have ha : Below w2.heap.size w2 (w2.alloc (.cells #[.slice (some ⟨gE, 0, none⟩) (cfin (fst0 L) (codes L)).E.length cE, .map (some b)] 48)) := (Below.refl _ _).alloc (Nat.le_refl _) _
      have hr3 := hturn.at_ ((ha.block _ (by omega)).trans HRES2.out) (by omega)
      have hm3 := hturn.at_ (halloc_at w2 (.cells #[.slice (some ⟨gE, 0, none⟩) (cfin (fst0 L) (codes L)).E.length cE, .map (some b)] 48) _ rfl) (by omega)
      have hbg : b ≠ gE := fun e => by
        obtain ⟨es, clock, hbk, _⟩ := HMAP.out.1
        rcases HOWN.out.2 with ⟨e2, _⟩ | ⟨g2, cap, cur, e2, _, hh, _⟩
        · cases e2
        · injection e2 with e2 _ _
          injection e2 with e2
          injection e2 with e2
          rw [← e2, ← e, hbk] at hh
          cases hh
      have hmp3 := hturn.map (mapN2_below HMAP.out ha) hbg
      have hrow3 : ∀ {u : Value} {Wd : List Int}, Own w2 w1.heap.size u Wd → Own w3 w1.heap.size u Wd := fun {u Wd} ho => by
        refine hturn.own (own_bel ho ha) (fun r e h => ?_)
        rcases own_apart (by decide) ho HOWN.out with h2 | h2
        · rw [h2] at e; cases e
        · rw [e] at h2
          exact h2 (by rw [h]; rfl)
      have HR3 := Lib.hid hr3
      have HM3 := Lib.hid hm3
      have HMP3 := Lib.hid hmp3
      have HRW3 : Hid (∀ (u : Value) (Wd : List Int), Own w2 w1.heap.size u Wd → Own w3 w1.heap.size u Wd) := Lib.hid fun u Wd h => hrow3 h
      have HPUT := Lib.hid hput
      have hb3 : Below w.heap.size w w3 := by
        have h2 := HB1.out.trans (HB2.out.mono (by omega))
        exact ⟨hturn.os.trans h2.os, hturn.tape.trans h2.tape, hturn.output.trans h2.output, Nat.le_trans h2.size (Nat.le_trans ha.size hturn.size), fun k hk => (hturn.block k (by have := ha.size; omega) (by omega)).trans ((ha.block k (by omega)).trans (h2.block k hk))⟩
      have HB3 := Lib.hid hb3
      have hfr := blk_free hr3
      have d0 := Joins.cell_of_block hr3 0
      have d1 := Joins.cell_of_block hr3 1
      have m0 := Joins.cell_of_block hm3 0
      have m1 := Joins.cell_of_block hm3 1
      simp only [List.getElem?_toArray, List.getElem?_cons_zero, List.getElem?_cons_succ] at d0 d1 m0 m1
      have hne : w2.heap.size ≠ w.heap.size := by omega
      clear hr3 hm3 hmp3 hrow3 hput hturn hb3 ha
      generalize hEl : (cfin (fst0 L) (codes L)).E.length = nE at *
      go_wp2_with fail
      have hbr := Joins.block_setCell (Joins.block_setCell HR3.out (i := 0) (.slice (some ⟨gE, 0, none⟩) nE cE)) (i := 1) (.map (some b))
      have b0 := Joins.cell_of_block hbr 0
      have b1 := Joins.cell_of_block hbr 1
      have ht := turn2 w3 w.heap.size (.slice (some ⟨gE, 0, none⟩) nE cE) (.map (some b))
      refine bodyPost_ret (v := .tuple #[.agg #[.slice (some ⟨gE, 0, none⟩) nE cE, .map (some b)], .int .i64 0]) (by simp [results, Try.results51, go_sem, b0, b1]) rfl ?_
      refine ⟨(HB3.out.setCell (Nat.le_refl _) _).setCell (Nat.le_refl _) _, Or.inr ⟨HE0.out, HGOOD.out, gE, cE, b, l, by rw [HLEN.out], ?_, ?_, ⟨HMWS.out.mem, HMWS.out.nd, fun j hj => ?_⟩, HI.out⟩⟩
      · exact (HPUT.out.block (ht.block gE HPUT.out.hi (by omega))).mono (by omega)
      · rw [HLEN.out]
        exact ht.map HMP3.out (by omega)
      · obtain ⟨u, hu, ho⟩ := HMWS.out.row j hj
        exact ⟨u, hu, ht.own (World.ownsRow.mono (HRW3.out u _ ho) (by omega)) (fun r e => by have := (ho.lt r e).1; omega)⟩
  · have e1 := elsC_bad hc
    have hHK := HK.out
    rw [← e1] at hHK
    have hne : elsC L O ≠ 0 := by rw [e1]; exact hc
    have HK := Lib.hid hHK
    have HNE := Lib.hid hne
    have hcb : (elsC L O != 0) = true := by simpa using hne
    clear hHK hne e1 hc
    go_enter Try.func51, Try.ntmps51
    go_wp2_with fail
    refine HK.out.mono ?_
    rintro e w1 ⟨rfl, hb⟩
    have HRES1 : Hid (w1.heap[w.heap.size]? = some (.cells #[.slice none 0 0, .map none] 48 (0, 0))) := Lib.hid ((hb.block _ (by simp)).trans (halloc_at _ _ _ rfl))
    have HB1 := Lib.hid (HB0.out.trans (hb.mono (by simp)))
    have d0 := Joins.cell_of_block HRES1.out 0
    have d1 := Joins.cell_of_block HRES1.out 1
    have hfr := blk_free HRES1.out
    simp only [List.getElem?_toArray, List.getElem?_cons_zero, List.getElem?_cons_succ] at d0 d1
    clear hb
    generalize hC : elsC L O = C at *
    have HCE := Lib.hid hC
    clear hC
    go_wp2_with fail
    have hbr := Joins.block_setCell (Joins.block_setCell HRES1.out (i := 0) (.slice none 0 0)) (i := 1) (.map none)
    have b0 := Joins.cell_of_block hbr 0
    have b1 := Joins.cell_of_block hbr 1
    refine bodyPost_ret (v := .tuple #[.agg #[.slice none 0 0, .map none], .int .i64 C]) (by simp [results, Try.results51, go_sem, b0, b1]) rfl ?_
    refine ⟨(HB1.out.setCell (Nat.le_refl _) _).setCell (Nat.le_refl _) _, Or.inl ⟨by rw [HCE.out]; exact HNE.out, by rw [HCE.out]⟩⟩

end Go.Proofs.Ytiogagaclhjdaaa
