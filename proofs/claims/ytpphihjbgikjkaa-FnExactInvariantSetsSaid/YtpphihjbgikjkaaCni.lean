/- The contracts of impl.countMaps, CountByRank, CountByFixed and CountIdempotents; spec.CountByFixed and spec.CountIdempotents. -/
import Derived.Test.YtpphihjbgikjkaaCnf
import Derived.Test.YtpphihjbgikjkaaSl
import Derived.Test.YtpphihjbgikjkaaOwn
import Derived.Maps.AppendAt
import Derived.Laws.EntriesVeiled
namespace Go.Proofs.Ytpphihjbgikjkaa
open Go Go.RowKit

theorem cell_one9 {w : World} {b T : Nat} {x : Value} (h : w.heap[b]? = some (.cells #[x] T (0, 0))) : ∀ j u, [x][j]? = some u → w.cell? ((⟨b, 0, none⟩ : Addr).add j) = some u := by
  intro j u hj
  have hadd : (⟨b, 0, none⟩ : Addr).add j = ⟨b, j, none⟩ := by cases j <;> simp [Addr.add]
  rw [hadd, Joins.cell_of_block h j, ← hj]
  simp

/-- A number is appended to a list of one's own. -/
theorem wpList_app9 {ops : Array Oper} {rest : List Oper} {o : Oper} {ac : Act} {Q : Exit → Act → World → Prop} {w : World} (hgd : o.guard = none) (s x : Operand)
    (ho : o.op = .call { callee := .builtin .append, args := #[s, x], argTypes := #[25, 25] })
    (base : Nat) (v : Value) (L : List Int) (hs : ac.eval s = v) (hown : Own w base v L) (b c : Nat) (y : Int) (hx : ac.eval x = .slice (some ⟨b, 0, none⟩) 1 c) (hb : w.heap[b]? = some (.cells #[.int .i64 y] 2 (0, 0)))
    (hlen : L.length ≤ 1000000) (hbase : base ≤ w.heap.size)
    (h : ∀ v' w', Own w' base v' (L ++ [y]) → w.grownBy w' v.ownBlock → (v'.ownBlock = v.ownBlock ∨ v'.ownBlock = some w.heap.size) → wpList Try.prog ops Q rest (ac.put o.dst v') w') : wpList Try.prog ops Q (o :: rest) ac w := by
  obtain ⟨i0, hi, hz0, hz1, hz2⟩ := info_parts info_int
  refine wpList_append_own_at w hgd s x _ ho base 2 i0 _ 1 8 Try.underlying25 hi hz0 hz1 hz2 rfl (by decide) v L.length (L.map (Value.int .i64)) hs hown ⟨b, 0, none⟩ 1 c [.int .i64 y] hx rfl (cell_one9 hb) (ints_oneCell .i64 [y]) (by unfold maxLen; omega) (by omega) hbase ?_
  intro v' w' h1 h2 _ h4
  refine h v' w' ?_ h2 h4
  unfold Own
  rw [List.map_append, List.length_append]
  exact h1

/-- The counts for k from l on. -/
def cnL (kd n l m : Nat) : List Int := (List.range m).map fun j => (kdN kd n (l + j) : Int)
theorem cnL_len (kd n l m : Nat) : (cnL kd n l m).length = m := by simp [cnL]
theorem cnL_succ (kd n l m : Nat) : cnL kd n l (m + 1) = cnL kd n l m ++ [(kdN kd n (l + m) : Int)] := by simp [cnL, List.range_succ]

def rgC (n : Int) (hi : Int) : Int := if 1 ≤ n ∧ n ≤ hi then 0 else 2
def cmL9 (kd : Nat) (l : Nat) (n : Int) : List Int := if 1 ≤ n ∧ n ≤ 12 then cnL kd n.toNat l (n.toNat + 1 - l) else []
theorem rg_yes {n hi : Int} (h : 1 ≤ n ∧ n ≤ hi) : rgC n hi = 0 := by unfold rgC; rw [if_pos h]
theorem rg_no {n hi : Int} (h : ¬ (1 ≤ n ∧ n ≤ hi)) : rgC n hi = 2 := by unfold rgC; rw [if_neg h]
theorem cmL9_yes {kd l : Nat} {n : Int} (h : 1 ≤ n ∧ n ≤ 12) : cmL9 kd l n = cnL kd n.toNat l (n.toNat + 1 - l) := by unfold cmL9; rw [if_pos h]
theorem cmL9_no {kd l : Nat} {n : Int} (h : ¬ (1 ≤ n ∧ n ≤ 12)) : cmL9 kd l n = [] := by unfold cmL9; rw [if_neg h]













/-- The sum of the first j counts. -/
def smN (kd n l : Nat) : Nat → Nat
  | 0 => 0
  | j + 1 => smN kd n l j + kdN kd n (l + j)
theorem smN_bd {n : Nat} (hn : n ≤ 12) : ∀ j, 1 + j ≤ n + 1 → smN 2 n 1 j ≤ 10000000000000 * j
  | 0, _ => Nat.le_refl _
  | j + 1, h => by
    have h1 := smN_bd hn j (by omega)
    have h2 := (kd_bd hn (show 1 + j ≤ n by omega)).2.2
    show smN 2 n 1 j + kdN 2 n (1 + j) ≤ _
    omega
def idV9 (n : Int) : Value := .tuple #[.int .i64 (if 1 ≤ n ∧ n ≤ 12 then (smN 2 n.toNat 1 n.toNat : Int) else 0), .int .i64 (rgC n 12)]
theorem idV9_no {n : Int} (h : ¬ (1 ≤ n ∧ n ≤ 12)) : idV9 n = .tuple #[.int .i64 0, .int .i64 2] := by unfold idV9; rw [if_neg h, rg_no h]
theorem idV9_yes {n : Nat} (h1 : 1 ≤ n) (h2 : n ≤ 12) : idV9 (n : Int) = .tuple #[.int .i64 (smN 2 n 1 n : Int), .int .i64 0] := by
  have h : (1 : Int) ≤ (n : Int) ∧ (n : Int) ≤ 12 := by omega
  unfold idV9; rw [if_pos h, rg_yes h, Int.toNat_natCast]



end Go.Proofs.Ytpphihjbgikjkaa
