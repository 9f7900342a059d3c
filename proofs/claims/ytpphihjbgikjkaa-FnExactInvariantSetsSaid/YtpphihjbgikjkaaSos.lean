/- slices.SortFunc at lists of sets: they lie in order. The contract of impl.setsInOrder. -/
import Derived.Test.YtpphihjbgikjkaaSrr
import Derived.Test.YtpphihjbgikjkaaIvk
import Derived.Test.YtpphihjbgikjkaaSlyr
import Derived.Test.YtpphihjbgikjkaaTurn
import Derived.Test.YtpphihjbgikjkaaTrw
import Derived.Test.YtpphihjbgikjkaaPcl
namespace Go.Proofs.Ytpphihjbgikjkaa
open Go Go.RowKit

theorem map_atR {A B : Type} {f : A → B} {l : List A} {j : Nat} {d : A} {e : B} (h : j < l.length) : (l.map f).getD j e = f (l.getD j d) := by
  rw [List.getD_eq_getElem?_getD, List.getElem?_map, List.getD_eq_getElem?_getD, List.getElem?_eq_getElem h]
  rfl
theorem getD_32 {S : List Nat} (h : ∀ m ∈ S, m < 32) {k : Nat} (hk : k < S.length) : S.getD k 0 < 32 := by
  rw [List.getD_eq_getElem?_getD, List.getElem?_eq_getElem hk]
  exact h _ (List.getElem_mem hk)
theorem drew0 (w : World) : w.drewN 0 = w := by cases w; simp [World.drewN]

def rwC : Value → Nat
  | .slice _ _ c => c
  | _ => 0
/-- The value of a row. -/
def enR (us : List Value) (S : List Nat) (i : Nat) : Value := .slice (some ⟨((us.getD (i % S.length) undef).ownBlock).getD 0, 0, none⟩) (lsT (S.getD (i % S.length) 0)).length (rwC (us.getD (i % S.length) undef))
/-- How the closure tells two rows apart. -/
def cfR (S : List Nat) (i j : Nat) : Int := keyC (lsT (S.getD (i % S.length) 0)) (lsT (S.getD (j % S.length) 0))

theorem enR_eq {w : World} {B : Nat} {v : Value} {us : List Value} {S : List Nat} (h : Trw w B v us (S.map lsT)) (hS : 0 < S.length) (i : Nat) : enR us S i = us.getD (i % S.length) undef := by
  have hm := Nat.mod_lt i hS
  have hj : i % S.length < (S.map lsT).length := by rw [List.length_map]; exact hm
  obtain ⟨g, c, e, _, _⟩ := own_blk (h.row _ hj) (h.full _ hj)
  rw [map_atR (d := 0) hm] at e
  unfold enR
  rw [e]
  rfl

theorem ltR {S : List Nat} (hS : 0 < S.length) (h32 : ∀ m ∈ S, m < 32) (i j : Nat) : ltOf (cfR S) i j = decide (kyT (S.getD (i % S.length) 0) < kyT (S.getD (j % S.length) 0)) := by
  unfold ltOf cfR
  exact key_ky _ (getD_32 h32 (Nat.mod_lt i hS)) _ (getD_32 h32 (Nat.mod_lt j hS))

theorem swoR {S : List Nat} (hS : 0 < S.length) (h32 : ∀ m ∈ S, m < 32) : Go.Sort.SWO (ltOf (cfR S)) where
  irrefl x := by rw [ltR hS h32]; simp
  trans x y z h1 h2 := by rw [ltR hS h32] at *; simp at *; omega
  ntrans x y z h1 h2 := by rw [ltR hS h32] at *; simp at *; omega

theorem sw_turn (enc : Nat → Value) (w : World) (g m : Nat) (dk : Array Nat) (os : Array Obj) : Turn w (sortWorld enc w g 0 m dk os) (fun k => k = g) := by
  refine ⟨rfl, rfl, rfl, ?_, fun k hk hS => ?_⟩
  · show w.heap.size ≤ ((Go.Sort.putRow enc (Go.Sort.ahead w m) g 0 dk).heap ++ os).size
    simp [Go.Sort.putRow, Go.Sort.mapBlock, Go.Sort.ahead]
  · show ((Go.Sort.putRow enc (Go.Sort.ahead w m) g 0 dk).heap ++ os)[k]? = _
    rw [Array.getElem?_append_left (by simp [Go.Sort.putRow, Go.Sort.mapBlock, Go.Sort.ahead]; exact hk)]
    simp [Go.Sort.putRow, Go.Sort.mapBlock, Go.Sort.ahead, Array.getElem?_modify, show ¬ g = k from fun e => hS e.symm]

theorem cmpR {w : World} {B g cap : Nat} {us : List Value} {S : List Nat} (h : Trw w B (.slice (some ⟨g, 0, none⟩) S.length cap) us (S.map lsT)) (hS : 0 < S.length) :
    CmpLays1 Try.prog 67 #[] (enR us S) (cfR S) g 0 S.length w := fun m os dk _ x y => by
  have hT := sw_turn (enR us S) w g m dk os
  have hrow : ∀ i, ∃ a c, enR us S i = .slice a (lsT (S.getD (i % S.length) 0)).length c ∧ InRow (sortWorld (enR us S) w g 0 m dk os) a (lsT (S.getD (i % S.length) 0)) := fun i => by
    have hm := Nat.mod_lt i hS
    have hj : i % S.length < (S.map lsT).length := by rw [List.length_map]; exact hm
    have hr := hT.own (h.row _ hj) (fun r e e2 => trw_tne (by decide) h.own (h.row _ hj) g rfl (e2 ▸ e))
    rw [map_atR (d := 0) hm] at hr
    obtain ⟨a, c, e, hrd⟩ := own_rd hr (by have := lsT_len (S.getD (i % S.length) 0); omega)
    exact ⟨a, c, by rw [enR_eq h hS]; exact e, hrd.inRow⟩
  obtain ⟨a1, c1, e1, h1⟩ := hrow x
  obtain ⟨a2, c2, e2, h2⟩ := hrow y
  rw [e1, e2]
  refine (sio_any _ _ (by have := lsT_len (S.getD (x % S.length) 0); omega) (by have := lsT_len (S.getD (y % S.length) 0); omega) a1 a2 c1 c2 _ h1 h2).mono ?_
  rintro e w' ⟨rfl, o, rfl⟩
  exact ⟨rfl, 0, #[o], by rw [drew0, Go.Sort.alloc_eq_grow]⟩

set_option maxRecDepth 100000 in
set_option maxHeartbeats 1000000 in
theorem sortr_any {w : World} {B g cap : Nat} {us : List Value} {S : List Nat} (hn : S.length ≤ 1000) (hS : 0 < S.length) (h32 : ∀ m ∈ S, m < 32) (h : Trw w B (.slice (some ⟨g, 0, none⟩) S.length cap) us (S.map lsT)) :
    Calls Try.prog 66 #[.slice (some ⟨g, 0, none⟩) S.length cap, .func (.func 67) #[] #[]] w fun e w' =>
      e = .returned (.tuple #[]) ∧ ∃ (M : List Nat) (us' : List Value), M.Perm S ∧ (M.Pairwise fun a b => kyT a ≤ kyT b) ∧ Trw w' B (.slice (some ⟨g, 0, none⟩) S.length cap) us' (M.map lsT) ∧ Turn w w' (fun k => k = g) := by
  have hl := h.trn.len
  rw [List.length_map] at hl
  have hcell := fun i (hi : i < S.length) => h.trn.cell (c := i) (by rw [List.length_map]; exact hi)
  rcases h.own.2 with ⟨h1, _⟩ | ⟨g2, cap2, cur, h1, hB, hgb, hcn, hcap, hsz, htk⟩
  · cases h1
  injection h1 with h1 _ h3
  injection h1 with h1
  injection h1 with h1
  subst h1 h3
  simp only [List.length_map] at hcn hcap hsz htk
  have hgl := (Array.getElem?_eq_some_iff.1 hgb).1
  have hd : (Array.range S.length).size = S.length := Array.size_range
  have hH : Go.Sort.Holds (enR us S) w g 0 (Array.range S.length) := fun j hj => by
    rw [hd] at hj
    obtain ⟨g3, c3, e3, _, _, hc, hf⟩ := hcell j hj
    injection e3 with e3 _ _
    injection e3 with e3
    injection e3 with e3
    subst e3
    rw [show 0 + j = j by omega]
    refine ⟨?_, hf⟩
    rw [hc, show (Array.range S.length)[j]! = j by simp [hj], enR_eq h hS, Nat.mod_eq_of_lt hj]
  have eg : ∀ args w, (callFunc 67 args).run Try.prog w = .ok (.enter 67 args) w := enters_of Try.func67 (by kernel_rfl) rfl
  have hcmp := cmpR h hS
  rw [← hd] at hcmp
  have hcon := Any.slices_SortFunc sortR (enR us S) (fun x => rfl) (cfR S) (swoR hS h32) 67 #[] g 0 cap (Array.range S.length) w eg (by rw [hd] at hcmp ⊢; exact hcmp) hH hgl (by rw [hd]; omega)
  change Calls Try.prog 66 _ _ _ at hcon
  rw [hd] at hcon
  refine hcon.mono ?_
  rintro e w' ⟨he, d', n, os, hperm, hsort, rfl⟩
  have hsz2 : d'.size = S.length := by have := hperm.1; simpa using this
  have hp2 : d'.toList.Perm (List.range S.length) := by
    have h := hperm.2.2
    have ht : List.take S.length d'.toList = d'.toList := List.take_of_length_le (by simp; omega)
    simp at h
    rw [ht] at h
    exact h
  have hT := sw_turn (enR us S) w g n d' os
  have hin : ∀ j, j < S.length → d'.toList.getD j 0 < S.length := fun j hj => by
    rw [List.getD_eq_getElem?_getD, List.getElem?_eq_getElem (by simp; omega)]
    exact List.mem_range.1 (hp2.mem_iff.1 (List.getElem_mem _))
  have hnd : d'.toList.Nodup := hp2.nodup_iff.2 List.nodup_range
  have hdl : d'.toList.length = S.length := by simp [hsz2]
  have hblk : (Go.Sort.grow (Go.Sort.putRow (enR us S) (Go.Sort.ahead w n) g 0 d') os).heap[g]? = some (.cells (Go.Sort.putCells (enR us S) 0 d' cur) 25 (0, 0)) := by
    have hgl2 : g < (Go.Sort.putRow (enR us S) (Go.Sort.ahead w n) g 0 d').heap.size := by simp [Go.Sort.putRow, Go.Sort.mapBlock, Go.Sort.ahead]; exact hgl
    show ((Go.Sort.putRow (enR us S) (Go.Sort.ahead w n) g 0 d').heap ++ os)[g]? = _
    rw [Array.getElem?_append_left hgl2]
    simp [Go.Sort.putRow, Go.Sort.mapBlock, Go.Sort.ahead, Array.getElem?_modify, hgb, Go.Sort.onCells]
  have hrg : (List.range S.length).map (fun i => S.getD i 0) = S := by
    apply List.ext_getElem
    · simp
    · intro i h1 h2
      simp [List.getD_eq_getElem?_getD, h2]
  refine ⟨he, d'.toList.map (fun i => S.getD i 0), d'.toList.map (fun i => us.getD i undef), ?_, ?_, ?_, hT⟩
  · have := hp2.map (fun i => S.getD i 0)
    rw [hrg] at this
    exact this
  · rw [List.pairwise_map, List.pairwise_iff_getElem]
    intro i j hi hj hij
    rw [hdl] at hi hj
    have hx := hsort i j (Nat.zero_le _) hij (by omega)
    rw [ltR hS h32, decide_eq_false_iff_not] at hx
    have e1 : d'[i]! = d'.toList[i] := by simp [hsz2, hi]
    have e2 : d'[j]! = d'.toList[j] := by simp [hsz2, hj]
    have h1 := hin i hi
    have h2 := hin j hj
    rw [List.getD_eq_getElem?_getD, List.getElem?_eq_getElem (by omega)] at h1 h2
    have h1' : d'.toList[i] < S.length := h1
    have h2' : d'.toList[j] < S.length := h2
    rw [e1, e2, Nat.mod_eq_of_lt h1', Nat.mod_eq_of_lt h2'] at hx
    omega
  · refine ⟨⟨by simp, Or.inr ⟨g, cap, Go.Sort.putCells (enR us S) 0 d' cur, by simp [hsz2], hB, hblk, by simp; omega, hcap, by simp [Go.Sort.putCells]; omega, ?_⟩⟩, fun j hj => ?_, fun j hj => ?_, fun i j hij hj => ?_⟩
    · apply List.ext_getElem?
      intro k
      by_cases hk : k < S.length
      · have hkc : k < cur.size := by omega
        have hkd : k < d'.size := by omega
        have h1 := hin k hk
        rw [List.getD_eq_getElem?_getD, List.getElem?_eq_getElem (by omega)] at h1
        have h1' : d'.toList[k] < S.length := h1
        rw [List.getElem?_take, if_pos (by simp; omega), Array.getElem?_toList, List.getElem?_map, List.getElem?_eq_getElem (by simp; omega)]
        simp only [Go.Sort.putCells, Array.getElem?_mapIdx, Array.getElem?_eq_getElem hkc, Option.map_some]
        rw [if_pos (by omega), Nat.sub_zero, enR_eq h hS, show d'[k]! = d'.toList[k] by simp [hkd], Nat.mod_eq_of_lt h1']
      · rw [List.getElem?_eq_none (by simp; omega), List.getElem?_eq_none (by simp; omega)]
    · rw [List.length_map, List.length_map, hdl] at hj
      have h1 := hin j hj
      rw [map_atR (d := 0) (by omega), map_atR (d := 0) (by simp; omega), map_atR (d := 0) (by omega)]
      have hj2 : d'.toList.getD j 0 < (S.map lsT).length := by rw [List.length_map]; exact h1
      have hr := hT.own (h.row _ hj2) (fun r e e2 => trw_tne (by decide) h.own (h.row _ hj2) g rfl (e2 ▸ e))
      rw [map_atR (d := 0) h1] at hr
      exact hr
    · rw [List.length_map, List.length_map, hdl] at hj
      have h1 := hin j hj
      rw [map_atR (d := 0) (by simp; omega), map_atR (d := 0) (by omega)]
      have hf := h.full _ (by rw [List.length_map]; exact h1)
      rw [map_atR (d := 0) h1] at hf
      exact hf
    · rw [List.length_map, List.length_map, hdl] at hj
      have h1 := hin i (by omega)
      have h2 := hin j hj
      rw [map_atR (d := 0) (by omega), map_atR (d := 0) (by omega)]
      have hne : d'.toList.getD i 0 ≠ d'.toList.getD j 0 := by
        rw [List.getD_eq_getElem?_getD, List.getD_eq_getElem?_getD, List.getElem?_eq_getElem (by omega), List.getElem?_eq_getElem (by omega)]
        exact (List.pairwise_iff_getElem.1 (List.nodup_iff_pairwise_ne.1 hnd)) i j (by omega) (by omega) hij
      rcases Nat.lt_or_gt_of_ne hne with c | c
      · exact h.ne _ _ c (by rw [List.length_map]; exact h2)
      · exact fun e => h.ne _ _ c (by rw [List.length_map]; exact h1) e.symm
end Go.Proofs.Ytpphihjbgikjkaa
