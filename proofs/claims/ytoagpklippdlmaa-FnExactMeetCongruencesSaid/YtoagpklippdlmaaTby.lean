/- The contract of impl.tableBy at any function value whose numbers are known: rows that are parts of one list. -/
import Derived.Test.YtoagpklippdlmaaTrw
import Derived.Shelf.Abstract
namespace Go.Proofs.Ytoagpklippdlmaa
open Go.RowKit

/-- The list of a table: its cells, and those of the first k rows and b numbers more. -/
def Lb8 (w : World) (g N n : Nat) (f : Nat → Nat → Int) (k b : Nat) : Prop :=
  ∃ C : Array Value, w.heap[g]? = some (.cells C 2 (0, 0)) ∧ (∀ c, c < N → ∃ v, C[c]? = some v) ∧ ∀ i j, j < n → (i < k ∨ (i = k ∧ j < b)) → C[i * n + j]? = some (.int .i64 (f i j))

theorem Lb8.lt {w : World} {g N n : Nat} {f : Nat → Nat → Int} {k b : Nat} (h : Lb8 w g N n f k b) : g < w.heap.size := by
  obtain ⟨C, h1, _⟩ := h
  exact (Array.getElem?_eq_some_iff.1 h1).1

theorem Lb8.same {w w' : World} {g N n : Nat} {f : Nat → Nat → Int} {k b : Nat} (h : Lb8 w g N n f k b) (e : w'.heap[g]? = w.heap[g]?) : Lb8 w' g N n f k b := by
  obtain ⟨C, h1, h2⟩ := h
  exact ⟨C, e.trans h1, h2⟩

theorem Lb8.below {w w' : World} {g N n : Nat} {f : Nat → Nat → Int} {k b : Nat} (h : Lb8 w g N n f k b) (hb : Below w.heap.size w w') : Lb8 w' g N n f k b := h.same (hb.block _ h.lt)

theorem Lb8.cell {w : World} {g N n : Nat} {f : Nat → Nat → Int} {k b : Nat} (h : Lb8 w g N n f k b) (c : Nat) (hc : c < N) : (∃ v, w.cell? ⟨g, c, none⟩ = some v) ∧ w.frozen? ⟨g, c, none⟩ = false := by
  obtain ⟨C, h1, h2, _⟩ := h
  obtain ⟨v, hv⟩ := h2 c hc
  exact ⟨⟨v, (Joins.cell_of_block h1 c).trans hv⟩, Joins.unfrozen_of_block h1 c⟩

theorem Lb8.row {w : World} {g N n : Nat} {f : Nat → Nat → Int} {k : Nat} (h : Lb8 w g N n f k n) : Lb8 w g N n f (k + 1) 0 := by
  obtain ⟨C, h1, h2, h3⟩ := h
  refine ⟨C, h1, h2, fun i j hj hi => h3 i j hj ?_⟩
  rcases hi with hi | ⟨_, hi⟩
  · rcases Nat.lt_succ_iff_lt_or_eq.1 hi with c | c
    · exact Or.inl c
    · exact Or.inr ⟨c, hj⟩
  · omega

theorem Lb8.put {w : World} {g N n : Nat} {f : Nat → Nat → Int} {k b p : Nat} (h : Lb8 w g N n f k b) (hp : p = k * n) (hb : b < n) (hN : p + b < N) : Lb8 (w.setCell ⟨g, p + b, none⟩ (.int .i64 (f k b))) g N n f k (b + 1) := by
  subst hp
  obtain ⟨C, h1, h2, h3⟩ := h
  refine ⟨_, Joins.block_setCell h1 _, fun c hc => ?_, fun i j hj hi => ?_⟩
  · obtain ⟨v, hv⟩ := h2 c hc
    by_cases e : c = k * n + b
    · subst e
      obtain ⟨hlt, _⟩ := Array.getElem?_eq_some_iff.1 hv
      exact ⟨_, by rw [Array.getElem?_setIfInBounds_self_of_lt hlt]⟩
    · exact ⟨v, by rw [Array.getElem?_setIfInBounds_ne (fun q => e q.symm)]; exact hv⟩
  · by_cases e : i = k ∧ j = b
    · obtain ⟨rfl, rfl⟩ := e
      obtain ⟨v, hv⟩ := h2 _ hN
      obtain ⟨hlt, _⟩ := Array.getElem?_eq_some_iff.1 hv
      rw [Array.getElem?_setIfInBounds_self_of_lt hlt]
    · have hne : i * n + j ≠ k * n + b := by
        intro q
        have h5 : i = k := by
          rcases Nat.lt_trichotomy i k with c | c | c
          · have := Nat.mul_le_mul_right n (show i + 1 ≤ k by omega)
            rw [Nat.succ_mul] at this
            omega
          · exact c
          · have := Nat.mul_le_mul_right n (show k + 1 ≤ i by omega)
            rw [Nat.succ_mul] at this
            omega
        subst h5
        exact e ⟨rfl, by omega⟩
      rw [Array.getElem?_setIfInBounds_ne (fun q => hne q.symm)]
      refine h3 i j hj ?_
      rcases hi with hi | ⟨hi, hj2⟩
      · exact Or.inl hi
      · exact Or.inr ⟨hi, by
          have : j ≠ b := fun q => e ⟨hi, q⟩
          omega⟩

/-- The rows, as parts of the list. -/
def rwsV (g n k : Nat) : List Value := (List.range k).map fun j => .slice (some ⟨g, j * n, none⟩) n n
theorem rwsV_len (g n k : Nat) : (rwsV g n k).length = k := by simp [rwsV]
theorem rwsV_succ (g n k p : Nat) (hp : p = k * n) : rwsV g n (k + 1) = rwsV g n k ++ [.slice (some ⟨g, p, none⟩) n n] := by subst hp; simp [rwsV, List.range_succ]

/-- A function value tells f at all pairs of numbers below n. -/
def Tells2 (w : World) (n : Nat) (f : Nat → Nat → Int) (gf : Nat) (lb : Array Value) : Prop :=
  ∀ i j, i < n → j < n → ∀ z, Below w.heap.size w z → Calls Try.prog gf (#[.int .i64 (i : Nat), .int .i64 (j : Nat)] ++ lb) z fun e w' => e = .returned (.int .i64 (f i j)) ∧ Below z.heap.size z w'

theorem rd_of_lb8 {w : World} {g N n : Nat} {f : Nat → Nat → Int} {B : Nat} {v : Value} (h : Lb8 w g N n f n 0) (hn1 : 1 ≤ n) (hn : n ≤ 300) (hB : B ≤ g) (ho : w.ownsRow B 26 1 v n (rwsV g n n)) : ∃ a cap, v = .slice a n cap ∧ RdT w B w.heap.size a (tbL f n n) := by
  rcases ho.2 with ⟨_, h0⟩ | ⟨gt, cap, cur, h1, hBt, hg, hcn, hcap, hsz, htk⟩
  · omega
  · have hgl := (Array.getElem?_eq_some_iff.1 hg).1
    have hlt := h.lt
    obtain ⟨C, c1, c2, c3⟩ := h
    refine ⟨_, cap, h1, by rw [tbL_len]; omega, fun j hj => ?_, Nat.le_refl _, Or.inr ⟨gt, fun _ => g, fun j => j * n, rfl, hBt, hgl, fun i j hi hj hne _ => ?_, fun j hj => ?_⟩⟩
    · rw [tbL_len] at hj
      rw [tbL_at _ _ _ _ hj, rwL_len]
      omega
    · rw [tbL_len] at hi hj
      rw [tbL_at _ _ _ _ hi, tbL_at _ _ _ _ hj, rwL_len, rwL_len]
      dsimp only
      rcases Nat.lt_or_gt_of_ne hne with c | c
      · have := Nat.mul_le_mul_right n (show i + 1 ≤ j by omega)
        rw [Nat.succ_mul] at this
        exact Or.inl this
      · have := Nat.mul_le_mul_right n (show j + 1 ≤ i by omega)
        rw [Nat.succ_mul] at this
        exact Or.inr this
    · rw [tbL_len] at hj
      rw [tbL_at _ _ _ _ hj, rwL_len]
      have e : cur.toList[j]? = (rwsV g n n)[j]? := by rw [← htk, List.getElem?_take, if_pos (by omega)]
      have hcell : w.cell? ⟨gt, j, none⟩ = some (.slice (some ⟨g, j * n, none⟩) n n) := by
        rw [Joins.cell_of_block hg j, ← Array.getElem?_toList, e]
        simp [rwsV, hj]
      refine ⟨⟨_, _, hcell, Or.inr ⟨rfl, ?_, hB, hlt⟩⟩, Joins.unfrozen_of_block hg j, fun i hi => ?_⟩
      · intro eg
        have eg : g = gt := eg
        rw [eg] at c1
        rw [c1] at hg
        injection hg with hg
        injection hg with _ hg
        exact absurd hg (by decide)
      · rw [rwL_len] at hi
        rw [rwL_at _ _ _ _ hi]
        refine ⟨?_, Joins.unfrozen_of_block c1 _⟩
        rw [Joins.cell_of_block c1]
        exact c3 j i hi (Or.inl hj)

set_option maxRecDepth 100000 in
set_option maxHeartbeats 4000000 in
theorem tby_any (n : Nat) (hn1 : 1 ≤ n) (hn : n ≤ 300) (f : Nat → Nat → Int) {gf : Nat} {lb : Array Value} (hgf : ∀ args w, (callFunc gf args).run Try.prog w = .ok (.enter gf args) w) (w : World) (hq : Tells2 w n f gf lb) :
    Calls Try.prog 67 #[.int .i64 (n : Nat), .func (.func gf) #[] lb] w fun e w' => ∃ a cap, e = .returned (.slice a n cap) ∧ RdT w' w.heap.size w'.heap.size a (tbL f n n) ∧ Below w.heap.size w w' := by
  obtain ⟨i0, hi, hz0, hz1, hz2⟩ := info_parts info_int
  have HQ := Lib.hid hq
  clear hq
  obtain ⟨N, hN⟩ : ∃ N : Nat, N = n * n := ⟨_, rfl⟩
  have hNI : (n : Int) * (n : Int) = (N : Int) := by rw [hN]; simp
  have hN9 : N ≤ 90000 := by rw [hN]; exact Nat.mul_le_mul hn hn
  have HNN := Lib.hid hN
  clear hN
  go_enter Try.func67, Try.ntmps67
  go_wp2_with (at_make; refine wpList_make_full _ rfl _ _ 26 rfl w.heap.size 2 i0 (.int .i64 0) 1 Try.underlying26 hi hz0 hz1 .i64 .i64 (N : Int) (N : Int) N rfl rfl rfl rfl ?c1 ?c2 ?c3 ?_)
  case c1 => rw [hz2]; omega
  case c2 => unfold maxLen; omega
  case c3 => exact Nat.le_refl _
  intro w1 hown hgrow
  have hlb : Lb8 w1 w.heap.size N n f 0 0 := by
    rcases hown.2 with ⟨h', _⟩ | ⟨g', cap', cur, h', _, hg, hnc, _, hsz, htk⟩
    · simp at h'
    · simp only [Value.slice.injEq, Option.some.injEq, Addr.mk.injEq, and_true, true_and] at h'
      obtain ⟨rfl, rfl⟩ := h'
      exact ⟨cur, hg, fun c hc => ⟨_, Array.getElem?_eq_getElem (by omega)⟩, fun i j _ hi => by omega⟩
  have Hb : Hid (Below w.heap.size w w1) := Lib.hid ((Below.refl _ _).grown hgrow (Nat.le_refl _) (fun k hk => by cases hk))
  have HLB := Lib.hid hlb
  clear hown hgrow hlb
  go_wp2_with fail
  go_loopw [6, 7, 8, 9, 15, 32] (fun v _ _ _ i _ wr => ∃ k : Nat, k ≤ n ∧ i = .int .i64 k ∧ wr.ownsRow w.heap.size 26 1 v k (rwsV w.heap.size n k) ∧ Lb8 wr w.heap.size N n f k 0 ∧ Below w.heap.size w wr) (fun _ _ _ _ i _ _ => n - (intOf i).toNat)
  case atStart => exact ⟨0, by omega, rfl, World.ownsRow_nil _ _ _ _, HLB.out, Hb.out⟩
  case round =>
    obtain ⟨k, hk, rfl, hown, hlb, hb⟩ := hrel
    have HO := Lib.hid hown
    have HBR := Lib.hid hb
    have HLB := Lib.hid hlb
    have hzw := hb.size
    clear hb hown hlb Hb
    obtain ⟨wo, hwo⟩ : ∃ wo, wo = wr := ⟨_, rfl⟩
    subst hwo
    by_cases hkn : k < n
    · have hkn' : (k : Int) < (n : Int) := by omega
      obtain ⟨p, hp⟩ : ∃ p : Nat, p = k * n := ⟨_, rfl⟩
      have hpI : (k : Int) * (n : Int) = (p : Int) := by rw [hp]; simp
      have hpJ : ((k : Int) + 1) * (n : Int) = (p : Int) + (n : Int) := by rw [Int.add_mul, Int.one_mul, hpI]
      have hpN : p + n ≤ N := by
        have := Nat.mul_le_mul_right n (show k + 1 ≤ n by omega)
        rw [Nat.succ_mul, ← hp, ← HNN.out] at this
        exact this
      have HPP := Lib.hid hp
      clear hp
      go_wp2_with fail
      rw [Nat.add_sub_cancel_left]
      go_loopw [9, 32] (fun _ i wr => ∃ j : Nat, j ≤ n ∧ i = .int .i64 j ∧ Lb8 wr w.heap.size N n f k j ∧ Turn wo wr (fun b => b = w.heap.size) ∧ Below w.heap.size w wr) (fun _ i _ => n - (intOf i).toNat)
      case atStart => exact ⟨0, by omega, rfl, HLB.out, Turn.of_below (Below.refl _ _), HBR.out⟩
      case round =>
        obtain ⟨j, hj, rfl, hlb2, ht2, hb2⟩ := hrel
        have HLB2 := Lib.hid hlb2
        have HT2 := Lib.hid ht2
        have HB2 := Lib.hid hb2
        have hz2w := hb2.size
        clear hlb2 ht2 hb2
        by_cases hjn : j < n
        · have hjn' : (j : Int) < (n : Int) := by omega
          have HQ1 := Lib.hid (HQ.out k j hkn hjn wr HB2.out)
          obtain ⟨F, hF⟩ : ∃ F, F = f k j := ⟨_, rfl⟩
          rw [← hF] at HQ1
          have HFF := Lib.hid hF
          clear hF
          go_wp2_with fail
          refine HQ1.out.mono ?_
          rintro e w5 ⟨rfl, hb5⟩
          have hlb5 := HLB2.out.below hb5
          obtain ⟨⟨v5, e5⟩, e6⟩ := hlb5.cell (p + j) (by omega)
          have hput := hlb5.put HPP.out hjn (by omega)
          rw [← HFF.out] at hput
          have HPUT := Lib.hid hput
          have HT5 : Hid (Turn wo w5 (fun b => b = w.heap.size)) := Lib.hid (HT2.out.trans (Turn.of_below hb5))
          have HB5 : Hid (Below w.heap.size w w5) := Lib.hid (HB2.out.trans (hb5.mono hz2w))
          clear hb5 hlb5 hput
          go_wp2_with fail
          go_roundw
          case rel => exact ⟨j + 1, by omega, by go_num, HPUT.out, HT5.out.setCell rfl, HB5.out.setCell (Nat.le_refl _) _⟩
          case measure => simp [intOf]; omega
        · obtain rfl : j = n := by omega
          have HRW := Lib.hid HLB2.out.row
          have HSU := Lib.hid (rwsV_succ w.heap.size j k p HPP.out)
          have hown5 : wr.ownsRow w.heap.size 26 1 u6 k (rwsV w.heap.size j k) := HT2.out.own HO.out (fun r hr e => by
            subst e
            obtain ⟨C, hc, _⟩ := HLB.out
            rcases HO.out.2 with ⟨h0, _⟩ | ⟨g9, c9, cur9, h9, _, hg9, _⟩
            · rw [h0] at hr; simp [Value.ownBlock] at hr
            · rw [h9] at hr
              simp [Value.ownBlock] at hr
              rw [hr, hc] at hg9
              injection hg9 with hg9
              injection hg9 with _ hg9
              exact absurd hg9 (by decide))
          have HO5 := Lib.hid hown5
          have HBD := Lib.hid (halloc_at wr (.cells #[.slice (some ⟨w.heap.size, p, none⟩) j j] 26) _ rfl)
          obtain ⟨i1, hj1, hy0, hy1, hy2⟩ := info_parts info_sl
          clear hown5
          go_wp2_with (at_builtin; refine wpList_append_own_at _ rfl _ _ _ rfl w.heap.size 26 i1 _ 1 24 Try.underlying58 hj1 hy0 hy1 hy2 rfl (by decide) u6 k (rwsV w.heap.size j k) rfl ((Turn.of_below (S := fun _ => False) ((Below.refl _ _).alloc (Nat.le_refl _) _)).own HO5.out (fun _ _ h => h)) ⟨wr.heap.size, 0, none⟩ 1 1 [.slice (some ⟨w.heap.size, p, none⟩) j j] rfl rfl (cell_one8 HBD.out) (fun z hz => by rw [List.mem_singleton.1 hz]; rfl) (by unfold maxLen; omega) (by omega) (by simp; omega) ?_; intro v4 w4 hown4 hgrow4 _ _; have HO4 := Lib.hid hown4; have HGR := Lib.hid hgrow4; have HB5 := Lib.hid ((HB2.out.alloc (by omega) _).grown hgrow4 (by simp; omega) (fun q e => (World.ownsRow.lt HO5.out q e).1)); clear hown4 hgrow4)
          go_roundw
          case rel =>
            refine ⟨k + 1, by omega, by go_num, by rw [HSU.out]; exact HO4.out, ?_, HB5.out⟩
            refine (HRW.out.below ((Below.refl _ _).alloc (Nat.le_refl _) _)).same (HGR.out.block _ (by have := HRW.out.lt; simp; omega) (fun e => ?_))
            obtain ⟨C, hc, _⟩ := HRW.out
            rcases HO5.out.2 with ⟨h0, _⟩ | ⟨g9, c9, cur9, h9, _, hg9, _⟩
            · rw [h0] at e; simp [Value.ownBlock] at e
            · rw [h9] at e
              simp [Value.ownBlock] at e
              rw [← e, hc] at hg9
              injection hg9 with hg9
              injection hg9 with _ hg9
              exact absurd hg9 (by decide)
          case measure => simp [intOf]; omega
    · obtain rfl : k = n := by omega
      obtain ⟨at_, ct, rfl, hrd⟩ := rd_of_lb8 HLB.out hn1 hn (Nat.le_refl _) HO.out
      have HRD := Lib.hid hrd
      clear hrd HO
      go_wp2_with fail
      go_ret
      exact ⟨at_, ct, rfl, HRD.out, HBR.out⟩

end Go.Proofs.Ytoagpklippdlmaa
