/- A list of maps among a law's arguments, opened; the contracts of laws.szMapS and laws.eqMapS. -/
import Derived.Test.YtiogagaclhjdaaaRow
import Derived.Test.YtiogagaclhjdaaaChk
import Derived.Test.YtiogagaclhjdaaaBase
import Derived.Deep.Slices
import Derived.StillTailTactics
namespace Go.Proofs.Ytiogagaclhjdaaa
open Go.ChangeShapes Go.WideShapes Go.ChangeAt Go.RowKit Go.Deep

set_option maxRecDepth 100000 in
theorem open_cells6 {H : Type} {enc : TypeId × Value → H} {W : World} {spare : Nat → Bool} {held : Bool} {n : Nat} {c0 c1 c2 c3 c4 c5 : Value} {x : DataW H × List MemPlace}
    (h : DataW.trod enc Try.prog W 0 spare held n 25 [c0, c1, c2, c3, c4, c5] = some x) :
    ∃ (y : MapN), [c0, c1, c2, c3, c4, c5] = [.int .i64 y.1, .int .i64 (y.2 0), .int .i64 (y.2 1), .int .i64 (y.2 2), .int .i64 (y.2 3), .int .i64 (y.2 4)] := by
  obtain ⟨y0, y1, n', _, _, h0, h1⟩ := trod_struct2 Try.underlying25 h
  simp only [cellsI, cellsA] at h0 h1
  obtain ⟨q, e0, _, w0⟩ := DataW.trod_int Try.underlying2 h0
  obtain ⟨xs, m, _, _, _, hn, hel⟩ := DataW.trod_array Try.underlying23 h1
  rw [cellsI] at hel
  match xs, hn with
  | [x0, x1, x2, x3, x4], _ =>
    obtain ⟨a0, e1, _, w1⟩ := DataW.trod_int Try.underlying2 (hel 0 (by omega))
    obtain ⟨a1, e2, _, w2⟩ := DataW.trod_int Try.underlying2 (hel 1 (by omega))
    obtain ⟨a2, e3, _, w3⟩ := DataW.trod_int Try.underlying2 (hel 2 (by omega))
    obtain ⟨a3, e4, _, w4⟩ := DataW.trod_int Try.underlying2 (hel 3 (by omega))
    obtain ⟨a4, e5, _, w5⟩ := DataW.trod_int Try.underlying2 (hel 4 (by omega))
    simp at e0 e1 e2 e3 e4 e5
    subst e0 e1 e2 e3 e4 e5
    exact ⟨(q, tOf a0 a1 a2 a3 a4), rfl⟩

set_option maxRecDepth 100000 in
theorem open_rowM {H : Type} {enc : TypeId × Value → H} {W : World} {spare : Nat → Bool} {held : Bool} {a : Option Addr} {len cap : Nat} {d : DataW H} {ps : List MemPlace}
    (h : DataW.Trod enc Try.prog W 0 spare held 22 (.slice a len cap) d ps) : ∃ L : List MapN, L.length = len ∧ InRowM W a L ∧ (a = none → cap = 0) ∧ len ≤ maxLen := by
  obtain ⟨fuel, hf⟩ := h
  rcases open_slice Try.underlying22 hf with ⟨hcs, _⟩ | ⟨x, l, c, m, n, D, Pl, hcs, hb, hl, hm, hmm, hx, hi⟩
  · simp [Value.cells] at hcs
    obtain ⟨rfl, rfl, rfl⟩ := hcs
    exact ⟨[], rfl, Or.inl rfl, fun _ => rfl, by simp⟩
  · simp [Value.cells] at hcs
    obtain ⟨rfl, rfl, rfl⟩ := hcs
    have hlm : len ≤ m := by rw [hmm]; split <;> omega
    by_cases h0 : len = 0
    · subst h0; exact ⟨[], rfl, Or.inl rfl, (fun e => by cases e), by simp⟩
    · have hone : ∀ i, i < len → ∃ y : MapN, ∀ j, j < 6 → W.cell? ((x.add (i * 6)).add j) = (mcl y)[j]? := fun i hil => by
        obtain ⟨cs', hc, ht'⟩ := hi i (by omega)
        rw [cellsM] at hc
        obtain ⟨_, hcl, hat⟩ := World.cells?_some hc
        match cs', hcl with
        | [c0, c1, c2, c3, c4, c5], _ =>
          obtain ⟨y, hy⟩ := open_cells6 ht'
          refine ⟨y, fun j hj => ?_⟩
          rw [hat j hj, hy]
          rfl
      obtain ⟨b, off, spot⟩ := x
      obtain ⟨y0, hy0⟩ := hone 0 (by omega)
      have hc00 := hy0 0 (by omega)
      have hspot : spot = none := by
        have := World.cell?_spot (w := W) (v := .int .i64 y0.1) (by rw [hc00]; rfl)
        simpa [Addr.add] using this
      subst hspot
      have hlt : b < W.heap.size := by
        have := World.block_lt_of_cell? W (u := .int .i64 y0.1) _ (by rw [hc00]; rfl)
        simpa [Addr.add] using this
      have hadd : ∀ i j, ((⟨b, off, none⟩ : Addr).add (i * 6)).add j = ⟨b, off + i * 6 + j, none⟩ := fun i j => by
        have e1 : ∀ o k, (⟨b, o, none⟩ : Addr).add k = ⟨b, o + k, none⟩ := fun o k => by cases k <;> simp [Addr.add]
        rw [e1, e1]
      have hat : ∀ i, i < len → ∃ y : MapN, AtM W b off i y := fun i hil => by
        obtain ⟨y, hy⟩ := hone i hil
        refine ⟨y, ?_⟩
        have h0 := hy 0 (by omega)
        have h1 := hy 1 (by omega)
        have h2 := hy 2 (by omega)
        have h3 := hy 3 (by omega)
        have h4 := hy 4 (by omega)
        have h5 := hy 5 (by omega)
        rw [hadd] at h0 h1 h2 h3 h4 h5
        exact ⟨h0, h1, h2, h3, h4, h5⟩
      refine ⟨(List.range len).map fun i => if h : i < len then Classical.choose (hat i h) else z0, by simp, Or.inr ⟨b, off, rfl, hlt, fun j hj => ?_⟩, (fun e => by cases e), by omega⟩
      simp at hj
      have e : ((List.range len).map fun i => if h : i < len then Classical.choose (hat i h) else z0).getD j z0 = Classical.choose (hat j hj) := by
        simp [hj]
      rw [e]
      exact Classical.choose_spec (hat j hj)

theorem sz_any (n : Nat) (a : Option Addr) (c : Nat) (hn : n ≤ 1048576) (w : World) :
    Calls Try.prog 15 #[.slice a n c, .int .i64 1048576] w fun e w' => e = .returned (.int .i64 (1048576 - n)) ∧ w' = w := by
  have h1 : ¬ ((1048576 : Int) - (n : Int) < 0) := by omega
  go_enter Try.func15, Try.ntmps15
  go_wp2_with fail
  go_ret
  exact ⟨rfl, rfl⟩

theorem sz_big (n : Nat) (a : Option Addr) (c : Nat) (hn : 1048576 < n) (h9 : n ≤ maxLen) (w : World) :
    Calls Try.prog 15 #[.slice a n c, .int .i64 1048576] w fun e w' => e = .returned (.int .i64 (-1)) ∧ w' = w := by
  unfold maxLen at h9
  have h1 : (1048576 : Int) - (n : Int) < 0 := by omega
  go_enter Try.func15, Try.ntmps15
  go_wp2_with fail
  go_ret
  exact ⟨rfl, rfl⟩

set_option maxRecDepth 100000 in
set_option maxHeartbeats 1000000 in
theorem eqMS_same (L : List MapN) (a1 a2 : Option Addr) (c1 c2 : Nat) (hn : L.length ≤ 2000000) (w : World) (h1 : InRowM w a1 L) (h2 : InRowM w a2 L) :
    Calls Try.prog 20 #[.slice a1 L.length c1, .slice a2 L.length c2] w fun e w' => e = .returned (.bool true) ∧ Below w.heap.size w w' := by
  have H1 := Lib.hid h1
  have H2 := Lib.hid h2
  clear h1 h2
  go_enter Try.func20, Try.ntmps20
  go_wp2_with fail
  go_loopw [5] (fun i wr => ∃ k : Nat, k ≤ L.length ∧ i = .int .i64 k ∧ Below w.heap.size w wr) (fun i _ => L.length - (intOf i).toNat)
  case atStart => exact ⟨0, by omega, rfl, Below.refl _ _⟩
  case round =>
    obtain ⟨k, hk, rfl, hb⟩ := hrel
    have HB := Lib.hid hb
    have hsz := hb.size
    clear hb
    by_cases hkl : k < L.length
    · have hkl' : (k : Int) < (L.length : Int) := by omega
      obtain ⟨b1, o1, rfl, hl1, hat1⟩ := (H1.out.below HB.out).at6 k hkl
      obtain ⟨b2, o2, rfl, hl2, hat2⟩ := (H2.out.below HB.out).at6 k hkl
      obtain ⟨x0, x1, x2, x3, x4, x5⟩ := hat1
      obtain ⟨y0, y1, y2, y3, y4, y5⟩ := hat2
      have HQ := Lib.hid fun w => eqMap_same (L.getD k z0).1 (L.getD k z0).2 w
      generalize L.getD k z0 = X at *
      obtain ⟨p, t⟩ := X
      simp only [] at x0 x1 x2 x3 x4 x5 y0 y1 y2 y3 y4 y5 HQ
      simp only [mv, mcells] at HQ
      go_wp2_with fail
      go_still_tail 8, (by kernel_rfl)
      go_wp2_with fail
      refine (HQ.out _).mono ?_
      rintro e w2 ⟨rfl, hb2⟩
      have hbd : Below wr.heap.size wr w2 := ⟨hb2.os, hb2.tape, hb2.output, hb2.size, fun x hx => hb2.block x hx⟩
      have HB2 := Lib.hid hbd
      clear hb2 hbd
      go_wp2_with fail
      go_roundw
      case rel => exact ⟨k + 1, by omega, by go_num, HB.out.trans (HB2.out.mono hsz)⟩
      case measure => simp [intOf]; omega
    · obtain rfl : k = L.length := by omega
      go_wp2_with fail
      go_ret
      exact ⟨rfl, HB.out⟩

end Go.Proofs.Ytiogagaclhjdaaa
