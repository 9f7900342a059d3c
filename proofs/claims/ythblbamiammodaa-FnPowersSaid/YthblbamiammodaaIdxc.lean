/- The contract of impl.indexAndPeriod. -/
import Derived.Test.YthblbamiammodaaIpwc
import Derived.Test.YthblbamiammodaaIdxm
import Derived.Test.YthblbamiammodaaKer
import Derived.Maps.OwnIn
import Derived.Sort.QuietIn
namespace Go.Proofs.Ythblbamiammodaa
open Go Go.RowKit Go.Maps
attribute [local go_sem] Oper.semAt_some

/-- What holds between two rounds: no power has been met twice, and the map knows the powers that have been met. -/
def IdxI (p : Int) (f : Nat → Int) (w : World) (k : Nat) (W : World) : Prop :=
  NoRep p f k ∧ W.ownsMap Try.prog 26 (plainElem Try.prog 2) (w.heap.size + 1 + 1 + 1) k (pD p f k) ∧ Below w.heap.size w W ∧
    W.heap[w.heap.size + 1]? = some (.cells #[.int .i64 0] 2 (0, 0)) ∧ W.heap[w.heap.size + 1 + 1]? = some (.cells #[.int .i64 0] 2 (0, 0)) ∧
    W.heap[w.heap.size + 1 + 1 + 1 + 1]? = some (.cells #[.map (some (w.heap.size + 1 + 1 + 1))] 68 (0, 0))

/-- What holds when the loop has been left. -/
def IdxX (i j : Nat) (w : World) (_ : Unit) (W : World) : Prop :=
  Below w.heap.size w W ∧ W.heap[w.heap.size + 1]? = some (.cells #[.int .i64 i] 2 (0, 0)) ∧ W.heap[w.heap.size + 1 + 1]? = some (.cells #[.int .i64 ((j : Int) - (i : Int))] 2 (0, 0))

theorem idxI_abides (p : Int) (f : Nat → Int) (w : World) (B : Nat) (hB : w.heap.size + 1 + 1 + 1 + 1 < B) : AbidesAll B (IdxI p f w) := fun s X Y row h hg hr =>
  ⟨h.1, h.2.1.kept hg (fun e => by have := hr _ e.symm; omega), h.2.2.1.grown hg h.2.2.1.size (fun k e => Nat.le_trans (by omega) (hr k e)), grown_at hg hr (by omega) h.2.2.2.1, grown_at hg hr (by omega) h.2.2.2.2.1, grown_at hg hr (by omega) h.2.2.2.2.2⟩

theorem idxX_abides (i j : Nat) (w : World) (B : Nat) (hB : w.heap.size + 1 + 1 + 1 + 1 < B) : AbidesAll B (IdxX i j w) := fun s X Y row h hg hr =>
  ⟨h.1.grown hg h.1.size (fun k e => Nat.le_trans (by omega) (hr k e)), grown_at hg hr (by omega) h.2.1, grown_at hg hr (by omega) h.2.2⟩

theorem made_map (w : World) (n : Nat) (h : w.heap.size = n) : (w.alloc (.map #[] 0)).ownsMap Try.prog 26 (plainElem Try.prog 2) n 0 (DataW.map [] : DataW Unit) := by
  subst h; exact World.ownsMap_made _ _ _ _

set_option maxRecDepth 100000 in
set_option maxHeartbeats 1000000 in
theorem iidx_any (p : Int) (f : Nat → Int) (hf : isB p f = true) (i j : Nat) (hR : Rep p f i j) (w : World) :
    Calls Try.prog 43 #[mv p f] w fun e w' => e = .returned (.tuple #[.int .i64 i, .int .i64 ((j : Int) - (i : Int))]) ∧ Below w.heap.size w w' := by
  refine (callsIn_wide (n := 5)).1 ?_
  refine callsIn_of_wp_marks Try.func43 rfl trivial ?_ rfl
  simp only [mv, mcells, Try.ntmps43, List.size_toArray, List.length_cons, List.length_nil, Nat.reduceAdd, Nat.reduceSub, Array.replicate_succ, Array.replicate_zero, List.push_toArray, List.append_toArray, List.nil_append, List.cons_append]
  have HPO := Lib.hid fun w => powersOf_any p f w
  simp only [mv, mcells] at HPO
  have hmm := @run_makeMap Try.prog
  gi_wp2_with (refine ⟨trivial, ?_⟩; gi_at_call 69; refine (callsIn_wide.2 (HPO.out _)).mono ?_; rintro e w1 ⟨rfl, rfl⟩)
  clear hmm
  have HPL := Lib.hid fun B n hn w hB hbf => powers_endless p f hf B 121 n hn (by omega) w hB hbf
  have HKY : Hid (∀ k, keyOf Try.prog 26 (mv p (pow p f k)) = some (kyL p (pow p f k))) := Lib.hid fun k => key_of (pow_ok hf k)
  have HF := Lib.hid hf
  have HR := Lib.hid hR
  clear HPO hf hR
  refine range_endless rfl (by omega) (gf := 77) (lb := #[.pointer (some ⟨w.heap.size + 1 + 1 + 1 + 1 + 1, 0, none⟩)]) rfl trivial (enters_of Try.func77 (by kernel_rfl) rfl)
    (encs := fun k => #[.int .i64 k, mv p (pow p f k)]) (K := fun b => b = w.heap.size + 1 + 1 + 1 + 1 + 1) (N := 121) (id := 0)
    (HPL.out (w.heap.size + 1 + 1 + 1 + 1 + 1) _ (by omega) _ (by simp) (halloc_at _ _ _ (by simp))) (fun b e => by simp; omega) (Below.refl _ _) (fun _ => rfl)
    (IdxI p f w) (IdxX i j w) (idxI_abides p f w _ (by simp)) (idxX_abides i j w _ (by simp)) ?start (fun k W h => Nat.lt_succ_of_le (norep_le HF.out h.1))
    (fun k a' W => ∃ Bx, w.heap.size + 1 + 1 + 1 + 1 + 1 < Bx ∧ W.heap[Bx]? = some (.cells (mcells p (pow p f k)) 26 (0, 0)) ∧
      a' = { tmps := #[.agg #[.int .i64 p, .int .i64 (f 0), .int .i64 (f 1), .int .i64 (f 2), .int .i64 (f 3), .int .i64 (f 4)], .pointer (some ⟨w.heap.size, 0, none⟩), .int .i64 0, .int .i64 0, .pointer (some ⟨w.heap.size + 1, 0, none⟩), .pointer (some ⟨w.heap.size + 1 + 1, 0, none⟩), .pointer (some ⟨w.heap.size + 1 + 1 + 1 + 1, 0, none⟩), .int .i64 k, .pointer (some ⟨Bx, 0, none⟩),
        undef, undef, .map (some (w.heap.size + 1 + 1 + 1)), .agg #[.int .i64 p, .int .i64 (f 0), .int .i64 (f 1), .int .i64 (f 2), .int .i64 (f 3), .int .i64 (f 4)],
        .func (.func 77) #[] #[.pointer (some ⟨w.heap.size + 1 + 1 + 1 + 1 + 1, 0, none⟩)], .int .i64 k, mv p (pow p f k), undef, undef, undef, undef, undef, undef, undef, undef, undef, undef, undef, undef, undef, undef, undef, undef], defers := [] })
    ?hax ?assign ?body ?stop
  case start =>
    refine ⟨fun a b h1 h2 => by omega, ?_, ?_, ?_, ?_, ?_⟩
    · exact ((made_map _ _ (by simp)).alloc _).alloc _
    · (repeat' (first | (with_reducible exact Below.refl _ _) | (with_reducible refine Below.alloc ?_ ?_ _) | (with_reducible refine Below.setCell ?_ ?_ _) | (with_reducible refine Below.drew ?_) | (with_reducible refine below_drewN ?_ _) | (with_reducible refine Below.trans ?_ (Below.mono (Hid.out (by assumption)) ?_)) | omega | (simp; done) | (simp; omega)))
    · (repeat' (first | omega | (rw [hdrew]) | (with_reducible assumption) | (with_reducible exact Hid.out (by assumption)) | (with_reducible rfl) | ((with_reducible refine halloc_at _ _ _ ?_) <;> (first | (with_reducible rfl) | omega | (simp; done))) | (with_reducible refine chain6 ?_) | (with_reducible refine Eq.trans (hset_ne _ _ _ _ ?_) ?_) | (with_reducible refine Eq.trans (halloc_lt _ _ _ ?_) ?_) | (with_reducible refine Eq.trans (Below.block (Hid.out (by assumption)) _ ?_) ?_) | (simp; done) | (simp; omega)))
    · (repeat' (first | omega | (rw [hdrew]) | (with_reducible assumption) | (with_reducible exact Hid.out (by assumption)) | (with_reducible rfl) | ((with_reducible refine halloc_at _ _ _ ?_) <;> (first | (with_reducible rfl) | omega | (simp; done))) | (with_reducible refine chain6 ?_) | (with_reducible refine Eq.trans (hset_ne _ _ _ _ ?_) ?_) | (with_reducible refine Eq.trans (halloc_lt _ _ _ ?_) ?_) | (with_reducible refine Eq.trans (Below.block (Hid.out (by assumption)) _ ?_) ?_) | (simp; done) | (simp; omega)))
    · (repeat' (first | omega | (rw [hdrew]) | (with_reducible assumption) | (with_reducible exact Hid.out (by assumption)) | (with_reducible rfl) | ((with_reducible refine halloc_at _ _ _ ?_) <;> (first | (with_reducible rfl) | omega | (simp; done))) | (with_reducible refine chain6 ?_) | (with_reducible refine Eq.trans (hset_ne _ _ _ _ ?_) ?_) | (with_reducible refine Eq.trans (halloc_lt _ _ _ ?_) ?_) | (with_reducible refine Eq.trans (Below.block (Hid.out (by assumption)) _ ?_) ?_) | (simp; done) | (simp; omega)))
  case hax =>
    rintro k a' _ X Y row ⟨Bx, h1, h2, h3⟩ hg hr
    exact ⟨Bx, h1, (hg.block Bx (Array.getElem?_eq_some_iff.1 h2).1 (fun e => by obtain ⟨_, o, ho, hc⟩ := hr Bx e.symm; rw [h2] at ho; cases ho; cases hc)).trans h2, h3⟩
  case assign =>
    rintro l k W Kx hi hlt hK
    have HI := Lib.hid hi
    have HK := Lib.hid hK
    clear hi hK
    simp only [World.size_alloc] at hlt
    simp only [mv, mcells]
    gi_wp2
    refine HK.out _ _ ?_ ?_ ?_
    · exact Kept.of ((Below.refl _ _).alloc (Nat.le_refl _) _) (fun b e => by omega)
    · exact AbidesAll.alloc (idxI_abides p f w _ (Nat.lt_succ_self _)) _ HI.out
    · exact ⟨W.heap.size, by omega, halloc_at _ _ _ rfl, rfl⟩
  case body =>
    rintro l k a' W ⟨hno, hmap, hb, c1, c2, c3⟩ ⟨Bx, hBx, cx, rfl⟩ hlt
    have hk := norep_le HF.out hno
    have hB := Lib.hid hb
    have C1 := Lib.hid c1
    have C2 := Lib.hid c2
    have C3 := Lib.hid c3
    have CX := Lib.hid cx
    have HNO := Lib.hid hno
    obtain ⟨x0, x1, x2, x3, x4, x5⟩ := blk6 cx
    have m0 := Joins.cell_of_block c3 0
    have hkey := HKY.out k
    have hmb := hmap.lt
    simp only [mv, mcells] at hkey
    simp only [World.size_alloc] at hlt
    clear hb c1 c2 c3 cx hno
    by_cases hs : ∃ b, b < k ∧ pow p f b = pow p f k
    · obtain ⟨b, hbk, hbe⟩ := hs
      have HIJ := Lib.hid (rep_one ⟨hbk, hk, hbe, HNO.out⟩ HR.out)
      have hhas := has_pD_old HF.out k b hbe k hbk
      have HCI : Hid (∀ c : Int, (pD p f k).atKey (kyL p (pow p f k)) (.lit (.int .i64 0)) = .lit (.int .i64 c) → c = (b : Int)) := Lib.hid fun c hat => by
        rw [← hbe, at_pD HF.out _ b k hbk HNO.out] at hat
        injection hat with hat
        injection hat with _ hat
        exact hat.symm
      have hbk' : (b : Int) < (k : Int) := by omega
      have y1 := Joins.cell_of_block C1.out 0
      have y2 := Joins.cell_of_block C2.out 0
      have fr1 := Joins.unfrozen_of_block C1.out 0
      have fr2 := Joins.unfrozen_of_block C2.out 0
      simp only [List.getElem?_toArray, List.getElem?_cons_zero] at m0 y1 y2
      generalize pow p f k = PK at *
      clear hbe
      gi_wp2_with (gi_at_lookup; refine wpListIn_lookup_own_ok_int _ rfl _ _ 68 rfl 26 2 .i64 lawM Try.underlying68 Try.underlying2 (zeroI _) _ k _ rfl hmap _ _ rfl hkey ?_; intro c hat hwc; have hcb := HCI.out c hat; have hsub : IntKind.i64.wrap ((k : Int) - c) = (k : Int) - c := IntWalk.i64_in _ (by omega); clear hat hwc)
      obtain ⟨e1, e2⟩ := HIJ.out
      have hlt1 : w.heap.size + 1 ≠ w.heap.size + 1 + 1 := by omega
      refine ⟨rfl, fun q h1 h2 => ?_, ?_, ?_, ?_⟩
      · simp only [World.size_alloc] at h1
        exact (hset_ne _ _ _ _ (by simp; omega)).trans (hset_ne _ _ _ _ (by simp; omega))
      · have hWs := hB.out.size
        (repeat' (first | (with_reducible exact Below.refl _ _) | (with_reducible refine Below.alloc ?_ ?_ _) | (with_reducible refine Below.setCell ?_ ?_ _) | (with_reducible refine Below.drew ?_) | (with_reducible refine below_drewN ?_ _) | (with_reducible refine Below.trans ?_ (Below.mono (Hid.out (by assumption)) ?_)) | omega | (simp; done) | (simp; omega)))
      · rw [← e1, ← hcb]
        exact (hset_ne _ _ _ _ hlt1).trans (Joins.block_setCell C1.out _)
      · rw [← e1, ← e2, ← hcb]
        exact Joins.block_setCell ((hset_ne _ _ _ _ (Ne.symm hlt1)).trans C2.out) _
    · have HNR : Hid (NoRep p f (k + 1)) := Lib.hid fun a b h1 h2 e => by
        by_cases c : b = k
        · subst c; exact hs ⟨a, h1, e⟩
        · exact HNO.out a b h1 (by omega) e
      have hhas := has_pD_new HF.out k k (fun b hb e => hs ⟨b, hb, e⟩)
      have hwf : (Lit.int .i64 (k : Int)).wf = true := WalkArith.wf_i64 (by omega)
      have HPD : Hid (pD p f (k + 1) = (pD p f k).put (kyL p (pow p f k)) (.lit (.int .i64 k))) := Lib.hid rfl
      simp only [List.getElem?_toArray, List.getElem?_cons_zero] at m0
      generalize pD p f (k + 1) = D1 at *
      clear hs
      gi_wp2_with (first
        | (gi_at_lookup; refine wpListIn_lookup_own_ok_int _ rfl _ _ 68 rfl 26 2 .i64 lawM Try.underlying68 Try.underlying2 (zeroI _) _ k _ rfl hmap _ _ rfl hkey ?_; intro c hat hwc; clear hat hwc)
        | (gi_at_mapUpdate; refine wpListIn_mapUpdate_own _ rfl _ _ _ 68 rfl 26 2 lawM Try.underlying68 _ _ k _ rfl hmap (by unfold maxLen; omega) _ _ _ rfl rfl hkey _ [] (plainElem_int Try.underlying2 hwf) ?_; intro w1 hmap1 hgrow1))
      have hWs := hB.out.size
      refine ⟨⟨hgrow1.size, fun q e => hgrow1.block q (by omega) (fun e2 => by cases e2; omega), fun q h1 h2 => hgrow1.block q h2 (fun e2 => by cases e2; simp only [World.size_alloc] at h1; omega)⟩, HNR.out, ?_, ?_, ?_, ?_, ?_⟩
      · rw [HPD.out] at *
        exact hmap1
      · exact hB.out.grown hgrow1 hWs (fun q e => by cases e; omega)
      · exact (hgrow1.block _ (by omega) (fun e2 => by injection e2 with e2; omega)).trans C1.out
      · exact (hgrow1.block _ (by omega) (fun e2 => by injection e2 with e2; omega)).trans C2.out
      · exact (hgrow1.block _ (by omega) (fun e2 => by injection e2 with e2; omega)).trans C3.out
  case stop =>
    rintro D W hD ⟨hb, c1, c2⟩ hK
    have y1 := Joins.cell_of_block c1 0
    have y2 := Joins.cell_of_block c2 0
    simp only [List.getElem?_toArray, List.getElem?_cons_zero] at y1 y2
    have HB := Lib.hid hb
    have HK := Lib.hid hK
    clear c1 c2 hb hK
    gi_wp2
    gi_quiet (fail)
    gi_wp2
    refine ⟨by simp, .inl ⟨_, _, rfl, run_takeDeferred (show (W.drewN nq).heap[D]? = some (.deferred (some [])) from HK.out), ?_⟩⟩
    refine ⟨_, by simp [results, Try.results43, go_sem], rfl, ?_⟩
    have hbl := below_drewN HB.out nq
    exact hbl.grown (grownBy_putObj' _ D _) hbl.size (fun k e => by cases e; simp only [World.size_alloc] at hD; omega)
end Go.Proofs.Ythblbamiammodaa
