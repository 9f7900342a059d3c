/- The contracts of impl.mapsAt, of the closure of impl.LeastGenerating, and of slices.IndexFunc at it. -/
import Derived.Test.YtpkapgidpgmdoaaPartq
import Derived.Test.YtpkapgidpgmdoaaWord
import Derived.Deep.DeepCutAuto
namespace Go.Proofs.Ytpkapgidpgmdoaa
open Go.RowKit Go.Maps

/-- The numbers of the maps that stand at these places. -/
def selP (gs r : List Nat) : List Nat := r.map fun i => gs.getD i 0

theorem rowI_at {r : List Nat} {k : Nat} (hk : k < r.length) : (rowI r).getD k 0 = ((r.getD k 0 : Nat) : Int) := by
  unfold rowI
  rw [List.getD_eq_getElem?_getD, List.getElem?_map, List.getElem?_eq_getElem hk, List.getD_eq_getElem?_getD, List.getElem?_eq_getElem hk]; rfl

theorem selP_succ {gs r : List Nat} {k : Nat} (hk : k < r.length) : selP gs (r.take (k + 1)) = selP gs (r.take k) ++ [gs.getD (r.getD k 0) 0] := by
  unfold selP
  rw [List.take_add_one, List.map_append, List.getElem?_eq_getElem hk, List.getD_eq_getElem?_getD (l := r), List.getElem?_eq_getElem hk]; rfl

set_option maxRecDepth 100000 in
set_option maxHeartbeats 1000000 in
theorem imapsat_any {p : Int} {gs : List Nat} (hn : gs.length ≤ 6) (a : Option Addr) (c B cu : Nat) (au : Option Addr) {r : List Nat} (hx : ∀ x ∈ r, x < gs.length) (hrl : r.length ≤ 6) (w : World) (h1 : InRowM w a (mE p gs)) (h2 : Rd w B au (rowI r)) :
    Calls Try.prog 100 #[.slice a gs.length c, .slice au r.length cu] w fun e w' => ∃ a' cap, e = .returned (.slice a' r.length cap) ∧ RdM w' w.heap.size a' (mE p (selP gs r)) ∧ Below w.heap.size w w' := by
  have HR := Lib.hid h1
  have HD := Lib.hid h2
  have HX := Lib.hid hx
  have HLEN := Lib.hid (rowI_len r)
  have hn' : (gs.length : Int) ≤ 6 := by omega
  clear h1 h2 hx
  go_enter Try.func100, Try.ntmps100
  go_wp2_with fail
  go_loopw [5, 7, 10] (fun v _ i wr => ∃ k : Nat, k ≤ r.length ∧ i = .int .i64 k ∧ Below w.heap.size w wr ∧ OwnM wr w.heap.size v (mE p (selP gs (r.take k)))) (fun _ _ i _ => r.length - (intOf i).toNat)
  case atStart => exact ⟨0, by omega, rfl, Below.refl _ _, (⟨by simp [mcels_nil, mE, selP], Or.inl ⟨rfl, by simp [mE, selP]⟩⟩)⟩
  case round =>
    obtain ⟨k, hk, rfl, hb, hown⟩ := hrel
    have HBR := Lib.hid hb
    have HOW := Lib.hid hown
    have hsr := hb.size
    clear hb hown
    by_cases hkl : k < r.length
    · have hkl' : (k : Int) < (r.length : Int) := by omega
      obtain ⟨gu, rfl, _, hgu, hcu⟩ := (HD.out.below HBR.out).2.resolve_left (fun e => by have := HLEN.out; rw [e] at this; simp at this; omega)
      have hck := (hcu k (by rw [HLEN.out]; exact hkl)).1
      rw [rowI_at hkl] at hck
      have hxk := HX.out (r.getD k 0) (by rw [List.getD_eq_getElem?_getD, List.getElem?_eq_getElem hkl]; exact List.getElem_mem hkl)
      have HSU := Lib.hid (selP_succ (gs := gs) hkl)
      have hsl : (selP gs (r.take k)).length ≤ 6 := by unfold selP; rw [List.length_map, List.length_take]; omega
      generalize r.getD k 0 = x at *
      generalize selP gs (r.take k) = M at *
      have hxk' : (x : Int) < (gs.length : Int) := by omega
      obtain ⟨b1, o1, rfl, hl1, hat1⟩ := (HR.out.below HBR.out).at6 x (by rw [mE_len]; exact hxk)
      rw [mE_at _ _ _ hxk] at hat1
      obtain ⟨x0, x1, x2, x3, x4, x5⟩ := hat1
      simp only [] at x0 x1 x2 x3 x4 x5
      generalize gs.getD x 0 = y at *
      have HB4 : Hid (Below w.heap.size w (wr.alloc (.cells (mcells p (dcd y)) 39))) := Lib.hid (HBR.out.alloc hsr _)
      clear hcu
      go_wp2_with (at_builtin; refine wpList_appM rfl _ _ rfl w.heap.size u5 (mE p M) rfl (ownM_bel HOW.out ((Below.refl _ _).alloc (Nat.le_refl _) _)) (some ⟨wr.heap.size, 0, none⟩) 1 [(p, dcd y)] (fun e => by cases e) rfl (Or.inr ⟨_, 0, rfl, by simp, at_one (halloc_at _ _ _ rfl)⟩) (by rw [mE_len]; simp; omega) (by simp; omega) ?_; intro v4 w4 hown4 hgrow4; have HO4 := Lib.hid hown4; have HB5 := Lib.hid (HB4.out.grown hgrow4 HB4.out.size (fun q e => (HOW.out.lt q e).1)); clear hown4 hgrow4)
      go_roundw
      case rel => exact ⟨k + 1, by omega, by go_num, HB5.out, by rw [HSU.out, mE_app]; exact HO4.out⟩
      case measure => simp [intOf]; omega
    · obtain rfl : k = r.length := by omega
      rw [List.take_length] at HOW
      have hsl : (mE p (selP gs r)).length = r.length := by rw [mE_len]; unfold selP; rw [List.length_map]
      obtain ⟨a2, cap2, e2, hr2⟩ := ownM_rd HOW.out (by rw [hsl]; omega)
      rw [hsl] at e2
      subst e2
      have HR2 := Lib.hid hr2
      clear hr2 hsl
      go_wp2_with fail
      go_ret
      exact ⟨a2, cap2, rfl, HR2.out, HBR.out⟩

/-- How many elements the maps at these places make, or 0. -/
noncomputable def szP (p : Int) (gs : List Nat) : Nat := if (cfin p gs).E.length ≤ 300 then (cfin p gs).E.length else 0

theorem meet_len {p : Int} {gs : List Nat} (h1 : 1 ≤ p) (h5 : p ≤ 5) (hg : ∀ c ∈ gs, vld p c) (hn : gs.length ≤ 6) (a : Option Addr) (cap : Nat) (w : World) (hr : InRowM w a (mE p gs)) :
    Calls Try.prog 99 #[.int .i64 p, .slice a gs.length cap] w fun e w' => ∃ ax cx mo C, e = .returned (.tuple #[.agg #[.slice ax (szP p gs) cx, .map mo], .int .i64 C]) ∧ Below w.heap.size w w' := by
  refine (meet_any h1 h5 hg hn a cap w hr).mono ?_
  rintro e w' ⟨hb, _, _, ⟨h3, rfl⟩ | ⟨h3, gE, cE, b, l, rfl, _⟩⟩
  · have : szP p gs = 0 := by unfold szP; rw [if_neg (by omega)]
    rw [this]
    exact ⟨none, 0, none, 3, rfl, hb⟩
  · have : szP p gs = (cfin p gs).E.length := by unfold szP; rw [if_pos h3]
    rw [this]
    exact ⟨_, cE, some b, 0, rfl, hb⟩

theorem selP_vld {p : Int} {gs r : List Nat} (hg : ∀ c ∈ gs, vld p c) (hx : ∀ x ∈ r, x < gs.length) : ∀ c ∈ selP gs r, vld p c := fun c hc => by
  obtain ⟨x, hxr, rfl⟩ := List.mem_map.1 hc
  exact hg _ (getD_mem (hx x hxr))

theorem blk2 {w : World} {b T : Nat} {x y u v : Value} (h : w.heap[b]? = some (.cells #[x, y] T (0, 0))) : ((w.setCell ⟨b, 0, none⟩ u).setCell ⟨b, 1, none⟩ v).heap[b]? = some (.cells #[u, v] T (0, 0)) := Joins.block_setCell (Joins.block_setCell h _) _

set_option maxRecDepth 100000 in
set_option maxHeartbeats 2000000 in
theorem lgc_any {L : List MapN} (hg : GoodL L) (a : Option Addr) (c cu B bl bm gE nE cE : Nat) (mo : Option Nat) (au : Option Addr) {r : List Nat} (hx : ∀ x ∈ r, x < L.length) (hrl : r.length ≤ 6) (w : World) (hbl : w.heap[bl]? = some (.cells #[.slice a L.length c] 24 (0, 0))) (hL : InRowM w a L)
    (hbm : w.heap[bm]? = some (.cells #[.slice (some ⟨gE, 0, none⟩) nE cE, .map mo] 71 (0, 0))) (hr : Rd w B au (rowI r)) :
    Calls Try.prog 98 #[.slice au r.length cu, .pointer (some ⟨bl, 0, none⟩), .pointer (some ⟨bm, 0, none⟩)] w fun e w' => e = .returned (.bool ((szP (fst0 L) (selP (codes L) r) : Int) == (nE : Int))) ∧ Below w.heap.size w w' := by
  have hn1 := hg.n1
  have hn1' : (0 : Int) < (L.length : Int) := by omega
  have hn0 : 0 < L.length := by omega
  have hcl := codes_len L
  have hsl : (selP (codes L) r).length = r.length := by unfold selP; rw [List.length_map]
  have HMA := Lib.hid fun (z : World) (hz : Below w.heap.size w z) => imapsat_any (p := fst0 L) (gs := codes L) (by rw [hcl]; exact hg.n6) a c B cu au (by rw [hcl]; exact hx) hrl z ((inRow_num hg hL).below hz) (hr.below hz)
  have HME := Lib.hid fun (a' : Option Addr) (cap' : Nat) (z : World) h => meet_len hg.p1 hg.p5 (selP_vld hg.vl (by rw [hcl]; exact hx)) (by rw [hsl]; exact hrl) a' cap' z h
  rw [hcl] at HMA
  rw [hsl] at HME
  obtain ⟨b0, o0, rfl, hb0, hat0⟩ := hL.at0 (by omega)
  obtain ⟨x0, _, _, _, _, _⟩ := hat0
  have hl0 : (L.getD 0 z0).1 = fst0 L := rfl
  rw [hl0] at x0
  have r0 : ∀ z, Below w.heap.size w z → z.cell? ⟨b0, o0, none⟩ = some (.int .i64 (fst0 L)) := fun z h => (h.cell (p := ⟨b0, o0, none⟩) hb0).trans x0
  have r1 : ∀ z, Below w.heap.size w z → z.cell? ⟨bl, 0, none⟩ = some (.slice (some ⟨b0, o0, none⟩) L.length c) := fun z h => by have := Joins.cell_of_block (bel_at h hbl) 0; simpa using this
  have HBM := Lib.hid hbm
  have hlm : bm < w.heap.size := (Array.getElem?_eq_some_iff.1 hbm).1
  clear hg hcl hsl hbl hL hbm hr x0 hl0 hx
  generalize selP (codes L) r = gs at *
  generalize fst0 L = p at *
  go_enter Try.func98, Try.ntmps98
  go_wp2_with fail
  go_cut [5] from 7 to 17 (fun s5 wx => ∃ (n : Nat) (ax : Option Addr) (cx : Nat) (mx : Option Nat), s5 = .pointer (some ⟨n, 0, none⟩) ∧ wx.heap[n]? = some (.cells #[.slice ax (szP p gs) cx, .map mx] 71 (0, 0)) ∧ Below w.heap.size w wx)
  case first =>
    go_region_held3 (fun w' => Below w.heap.size w w') (first | (with_reducible assumption) | ((repeat' (first | (with_reducible exact Below.refl _ _) | (with_reducible refine Below.alloc ?_ ?_ _) | (with_reducible refine Below.setCell ?_ ?_ _) | (with_reducible refine Below.drew ?_) | (with_reducible refine below_drewN ?_ _) | (with_reducible refine Below.trans ?_ (Below.mono (Hid.out (by assumption)) ?_)) | omega | (simp; done) | (simp; omega))); done)) (first
      | (go_at_call 100; (with_reducible refine (HMA.out _ (by (repeat' (first | (with_reducible exact Below.refl _ _) | (with_reducible refine Below.alloc ?_ ?_ _) | (with_reducible refine Below.setCell ?_ ?_ _) | (with_reducible refine Below.drew ?_) | (with_reducible refine below_drewN ?_ _) | (with_reducible refine Below.trans ?_ (Below.mono (Hid.out (by assumption)) ?_)) | omega | (simp; done) | (simp; omega))))).mono ?_); rintro e wA ⟨aA, cA, rfl, hrA, hbA⟩; have HRA := Lib.hid hrA; obtain ⟨hc, hf⟩ := bcell hbA; have hz := hbA.size; have HBA := Lib.hid hbA; (try simp at hz hc hf); (try (have hy := Nat.lt_of_succ_le hz)); have hlA : w.heap.size ≤ wA.heap.size := (by omega); (try (have hlA1 : w.heap.size < wA.heap.size := (by omega))); clear hrA hbA)
      | (go_at_call 99; (with_reducible refine (HME.out aA cA _ ((HRA.out.below (by (repeat' (first | (with_reducible exact Below.refl _ _) | (with_reducible refine Below.alloc ?_ ?_ _) | (with_reducible refine Below.setCell ?_ ?_ _) | (with_reducible refine Below.drew ?_) | (with_reducible refine below_drewN ?_ _) | (with_reducible refine Below.trans ?_ (Below.mono (Hid.out (by assumption)) ?_)) | omega | (simp; done) | (simp; omega))))).inRow)).mono ?_); rintro e wB ⟨ax, cx, mx, C, rfl, hbB⟩; obtain ⟨hc2, hf2⟩ := bcell hbB; have hz2 := hbB.size; have HBB := Lib.hid hbB; (try simp at hz2 hc2 hf2); (try (have hy2 := Nat.lt_of_succ_le hz2)); have hlB : w.heap.size ≤ wB.heap.size := (by omega); (try (have hlB1 : w.heap.size < wB.heap.size := (by omega))); clear hbB))
    all_goals (go_wp2_with fail)
    all_goals (go_meet)
    all_goals exact ⟨_, ax, cx, mx, rfl, by first | exact halloc_at _ _ _ rfl | exact blk2 (by (repeat' (first | omega | (rw [hdrew]) | (with_reducible assumption) | (with_reducible exact Hid.out (by assumption)) | (with_reducible rfl) | ((with_reducible refine halloc_at _ _ _ ?_) <;> (first | (with_reducible rfl) | omega | (simp; done))) | (with_reducible refine chain6 ?_) | (with_reducible refine Eq.trans (hset_ne _ _ _ _ ?_) ?_) | (with_reducible refine Eq.trans (halloc_lt _ _ _ ?_) ?_) | (with_reducible refine Eq.trans (Below.block (Hid.out (by assumption)) _ ?_) ?_) | (simp; done) | (simp; omega)))), by (repeat' (first | (with_reducible exact Below.refl _ _) | (with_reducible refine Below.alloc ?_ ?_ _) | (with_reducible refine Below.setCell ?_ ?_ _) | (with_reducible refine Below.drew ?_) | (with_reducible refine below_drewN ?_ _) | (with_reducible refine Below.trans ?_ (Below.mono (Hid.out (by assumption)) ?_)) | omega | (simp; done) | (simp; omega)))⟩
  case rest =>
    obtain ⟨n, ax, cx, mx, rfl, hn, hb⟩ := hcut
    have HB := Lib.hid hb
    have y0 := Joins.cell_of_block hn 0
    have y1 := Joins.cell_of_block (bel_at hb HBM.out) 0
    simp only [List.getElem?_toArray, List.getElem?_cons_zero] at y0 y1
    clear hb hn r0 r1
    go_wp2_with fail
    go_ret
    exact ⟨rfl, HB.out⟩

set_option maxRecDepth 100000 in
set_option maxHeartbeats 1000000 in
theorem idxf_any (bl bm : Nat) {B : Nat} {a : Option Addr} {cap : Nat} {us : List Value} {W : List (List Int)} (w : World) (hw : Wdx w B (.slice a W.length cap) us W) (hl : W.length ≤ 1000) (Q : Nat → Bool)
    (hq : ∀ k, k < W.length → ∀ z, Below w.heap.size w z → Calls Try.prog 98 #[us.getD k undef, .pointer (some ⟨bl, 0, none⟩), .pointer (some ⟨bm, 0, none⟩)] z fun e w' => e = .returned (.bool (Q k)) ∧ Below z.heap.size z w')
    (i : Nat) (hi : i < W.length) (h0 : ∀ j, j < i → Q j = false) (h1 : Q i = true) :
    Calls Try.prog 97 #[.slice a W.length cap, .func (.func 98) #[] #[.pointer (some ⟨bl, 0, none⟩), .pointer (some ⟨bm, 0, none⟩)]] w fun e w' => e = .returned (.int .i64 i) ∧ Below w.heap.size w w' := by
  have HW := Lib.hid hw
  have HQ := Lib.hid hq
  have H0 := Lib.hid h0
  clear hw hq h0
  go_enter Try.func97, Try.ntmps97
  go_wp2_with fail
  go_loopw [5, 8] (fun _ z wr => ∃ k : Nat, k ≤ i ∧ z = .int .i64 k ∧ Below w.heap.size w wr) (fun _ z _ => W.length - (intOf z).toNat)
  case atStart => exact ⟨0, by omega, rfl, Below.refl _ _⟩
  case round =>
    obtain ⟨k, hk, rfl, hb⟩ := hrel
    have HB := Lib.hid hb
    have hsr := hb.size
    have hkl : k < W.length := by omega
    have hkl' : (k : Int) < (W.length : Int) := by omega
    obtain ⟨g, cap2, e2, hgl, hcell⟩ := (HW.out.below hb).at_ hkl
    injection e2 with e2 _ e3
    subst e2 e3
    have HK := Lib.hid (HQ.out k hkl)
    clear hb
    generalize us.getD k undef = u at *
    by_cases hki : k = i
    · subst hki
      rw [h1] at HK
      go_wp2_with fail
      refine (HK.out _ HB.out).mono ?_
      rintro e w2 ⟨rfl, hb2⟩
      have HB2 := Lib.hid hb2
      clear hb2
      go_wp2_with fail
      go_ret
      exact ⟨rfl, HB.out.trans (HB2.out.mono hsr)⟩
    · rw [H0.out k (by omega)] at HK
      go_wp2_with fail
      refine (HK.out _ HB.out).mono ?_
      rintro e w2 ⟨rfl, hb2⟩
      have HB2 := Lib.hid hb2
      clear hb2
      go_wp2_with fail
      go_roundw
      case rel => exact ⟨k + 1, by omega, by go_num, HB.out.trans (HB2.out.mono hsr)⟩
      case measure => simp [intOf]; omega

end Go.Proofs.Ytpkapgidpgmdoaa
