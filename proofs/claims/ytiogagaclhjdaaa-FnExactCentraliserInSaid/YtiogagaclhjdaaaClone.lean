/- The contract of slices.Clone at a list of integers. -/
import Derived.Test.YtiogagaclhjdaaaSl
namespace Go.Proofs.Ytiogagaclhjdaaa
open Go.RowKit

set_option maxHeartbeats 1000000 in
theorem clone_any (b o n cap : Nat) (L : List Int) (hL : L.length = n) (hn : n ≤ 2000000) (w : World) (hc : ∀ i, i < n → w.cell? ⟨b, o + i, none⟩ = some (.int .i64 (L.getD i 0))) :
    Calls Try.prog 98 #[.slice (some ⟨b, o, none⟩) n cap] w (RetOwn w.heap.size L w) := by
  obtain ⟨i0, hi, hz0, hz1, hz2⟩ := info_parts info_int
  have hnil : ∀ w : World, (binOp .eql 82 (.slice (some ⟨b, o, none⟩) n cap) (.slice none 0 0)).run Try.prog w = .ok (.bool false) w := fun w => Lib.run_eql_slice_nil w _ _ _ n cap 0 0 Try.underlying82
  have HC := Lib.hid hc
  have HLL := Lib.hid hL
  clear hc hL
  go_enter Try.func98, Try.ntmps98
  go_wp2_with (at_builtin; refine wpList_append_own _ rfl _ _ 82 rfl w.heap.size 2 i0 (.int .i64 0) 1 8 Try.underlying82 hi hz0 hz1 hz2 rfl (by decide) _ _ _ rfl (own_empty w _ (Nat.le_refl _)) ⟨b, o, none⟩ n cap (L.map (Value.int .i64)) rfl ?c0 ?c1 ?c2 ?c3 ?c4 ?c5 ?_)
  case c0 => simp [HLL.out]
  case c1 =>
    intro j u hj
    rw [List.getElem?_map] at hj
    have hjl : j < L.length := by
      rcases Nat.lt_or_ge j L.length with h | h
      · exact h
      · rw [List.getElem?_eq_none h] at hj; cases hj
    have := HC.out j (by rw [← HLL.out]; exact hjl)
    have hlt := World.block_lt_of_cell? w _ this
    have hadd : (⟨b, o, none⟩ : Addr).add j = ⟨b, o + j, none⟩ := by cases j <;> simp [Addr.add]
    rw [hadd, World.cell?_alloc_lt _ _ _ hlt]
    rw [List.getElem?_eq_getElem hjl] at hj
    simp at hj
    subst hj
    simpa [hjl] using this
  case c2 => intro u hu; simp at hu; obtain ⟨x, _, rfl⟩ := hu; rfl
  case c3 => unfold maxLen; omega
  case c4 => omega
  case c5 => simp
  intro v' w1 hown' hgrow _
  have HO : Hid (w1.ownsRow w.heap.size 2 1 v' L.length (L.map (Value.int .i64))) := by
    refine Lib.hid ?_
    rw [HLL.out]; simpa using hown'
  have HB : Hid (Below w.heap.size w w1) := ((Below.refl _ _).alloc (Nat.le_refl _) _).grown hgrow (by simp) (fun k hk => by cases hk; exact Nat.le_refl _)
  clear hown' hgrow
  go_wp2_with fail
  go_ret
  exact ⟨_, rfl, HO.out, HB.out⟩

end Go.Proofs.Ytiogagaclhjdaaa
