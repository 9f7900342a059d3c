/- The contracts of impl.countMaps, CountByRank, CountByFixed and CountIdempotents; spec.CountByFixed and spec.CountIdempotents. -/
import Derived.Test.YtfghegjlilcafaaCnf
import Derived.Test.YtfghegjlilcafaaSl
import Derived.Test.YtfghegjlilcafaaOwn
import Derived.Maps.AppendAt
import Derived.Laws.EntriesVeiled
namespace Go.Proofs.Ytfghegjlilcafaa
open Go Go.RowKit

theorem cell_one9 {w : World} {b T : Nat} {x : Value} (h : w.heap[b]? = some (.cells #[x] T (0, 0))) : ∀ j u, [x][j]? = some u → w.cell? ((⟨b, 0, none⟩ : Addr).add j) = some u := by
  intro j u hj
  have hadd : (⟨b, 0, none⟩ : Addr).add j = ⟨b, j, none⟩ := by cases j <;> simp [Addr.add]
  rw [hadd, Joins.cell_of_block h j, ← hj]
  simp

/-- A number is appended to a list of one's own. -/
theorem wpList_app9 {ops : Array Oper} {rest : List Oper} {o : Oper} {ac : Act} {Q : Exit → Act → World → Prop} {w : World} (hgd : o.guard = none) (s x : Operand)
    (ho : o.op = .call { callee := .builtin .append, args := #[s, x], argTypes := #[25, 25] })
    (base : Nat) (v : Value) (L : List Int) (hs : ac.eval s = v) (hown : Own w base v L) (b c : Nat) (y : Int) (hx : ac.eval x = .slice (some ⟨b, 0, none⟩) 1 c) (hb : w.heap[b]? = some (.cells #[.int .i64 y] 2 (0, 0)))
    (hlen : L.length ≤ 1000000) (hbase : base ≤ w.heap.size)
    (h : ∀ v' w', Own w' base v' (L ++ [y]) → w.grownBy w' v.ownBlock → (v'.ownBlock = v.ownBlock ∨ v'.ownBlock = some w.heap.size) → wpList Try.prog ops Q rest (ac.put o.dst v') w') : wpList Try.prog ops Q (o :: rest) ac w := by
  obtain ⟨i0, hi, hz0, hz1, hz2⟩ := info_parts info_int
  refine wpList_append_own_at w hgd s x _ ho base 2 i0 _ 1 8 Try.underlying25 hi hz0 hz1 hz2 rfl (by decide) v L.length (L.map (Value.int .i64)) hs hown ⟨b, 0, none⟩ 1 c [.int .i64 y] hx rfl (cell_one9 hb) (ints_oneCell .i64 [y]) (by unfold maxLen; omega) (by omega) hbase ?_
  intro v' w' h1 h2 _ h4
  refine h v' w' ?_ h2 h4
  unfold Own
  rw [List.map_append, List.length_append]
  exact h1

/-- The counts for k from l on. -/
def cnL (kd n l m : Nat) : List Int := (List.range m).map fun j => (kdN kd n (l + j) : Int)
theorem cnL_len (kd n l m : Nat) : (cnL kd n l m).length = m := by simp [cnL]
theorem cnL_succ (kd n l m : Nat) : cnL kd n l (m + 1) = cnL kd n l m ++ [(kdN kd n (l + m) : Int)] := by simp [cnL, List.range_succ]

def rgC (n : Int) (hi : Int) : Int := if 1 ≤ n ∧ n ≤ hi then 0 else 2
def cmL9 (kd : Nat) (l : Nat) (n : Int) : List Int := if 1 ≤ n ∧ n ≤ 12 then cnL kd n.toNat l (n.toNat + 1 - l) else []
theorem rg_yes {n hi : Int} (h : 1 ≤ n ∧ n ≤ hi) : rgC n hi = 0 := by unfold rgC; rw [if_pos h]
theorem rg_no {n hi : Int} (h : ¬ (1 ≤ n ∧ n ≤ hi)) : rgC n hi = 2 := by unfold rgC; rw [if_neg h]
theorem cmL9_yes {kd l : Nat} {n : Int} (h : 1 ≤ n ∧ n ≤ 12) : cmL9 kd l n = cnL kd n.toNat l (n.toNat + 1 - l) := by unfold cmL9; rw [if_pos h]
theorem cmL9_no {kd l : Nat} {n : Int} (h : ¬ (1 ≤ n ∧ n ≤ 12)) : cmL9 kd l n = [] := by unfold cmL9; rw [if_neg h]

theorem counters_any (w : World) : Calls Try.prog 98 #[] w fun e w' => e = .returned (.slice (some ⟨w.heap.size, 0, none⟩) 3 3) ∧ w' = w.alloc (.cells #[.func (.func 125) #[] #[], .func (.func 126) #[] #[], .func (.func 127) #[] #[]] 91) := by
  go_enter Try.func98, Try.ntmps98
  go_wp2_with fail
  go_ret
  exact ⟨rfl, rfl⟩

set_option maxRecDepth 100000 in
set_option maxHeartbeats 2000000 in
theorem icms_any (kd l : Nat) (f : Nat) (hkd : kd < 3) (hl : l ≤ 1) (hf : f = if kd = 0 then 125 else if kd = 1 then 126 else 127)
    (HC : ∀ n k : Nat, 1 ≤ n → n ≤ 12 → k ≤ n → ∀ w, Calls Try.prog f #[.int .i64 (n : Int), .int .i64 (k : Int)] w fun e w' => e = .returned (.int .i64 (kdN kd n k : Int)) ∧ w' = w) (n : Int) (w : World) :
    Calls Try.prog 67 #[.int .i64 n, .int .i64 (kd : Int), .int .i64 (l : Int)] w (RetRow w.heap.size (cmL9 kd l n) (rgC n 12) w) := by
  by_cases hn : 1 ≤ n ∧ n ≤ 12
  rotate_left
  · rw [cmL9_no hn, rg_no hn]
    clear HC hf
    by_cases h1 : n < 1
    · clear hn
      go_enter Try.func67, Try.ntmps67
      go_wp2_with fail
      go_ret2
      exact ⟨none, 0, rfl, ⟨by simp, Or.inl rfl⟩, Below.refl _ _⟩
    · have h2 : 12 < n := by omega
      clear hn
      go_enter Try.func67, Try.ntmps67
      go_wp2_with fail
      go_ret2
      exact ⟨none, 0, rfl, ⟨by simp, Or.inl rfl⟩, Below.refl _ _⟩
  rw [cmL9_yes hn, rg_yes hn]
  obtain ⟨m, rfl⟩ := Int.eq_ofNat_of_zero_le (show 0 ≤ n by omega)
  simp only [Int.toNat_natCast]
  have hm1 : 1 ≤ m := by omega
  have hm2 : m ≤ 12 := by omega
  have hm1' : 1 ≤ (m : Int) := hn.1
  have hm2' : (m : Int) ≤ 12 := hn.2
  have HC := Lib.hid fun k hk w => HC m k hm1 hm2 hk w
  have HS := Lib.hid (cnL_succ kd m l)
  have HLL := Lib.hid (cnL_len kd m l)
  clear hn
  have hgo : ∀ (Q : Prop), (kd = 0 ∨ kd = 1 ∨ kd = 2 → Q) → Q := fun Q h => h (by omega)
  refine hgo _ ?_
  rintro (rfl | rfl | rfl)
  · simp at hf
    subst hf
    go_enter Try.func67, Try.ntmps67
    go_wp2_with fail
    refine (counters_any _).mono ?_
    rintro e w1 ⟨rfl, hw1⟩
    have hb := (halloc_at w (.cells #[.func (.func 125) #[] #[], .func (.func 126) #[] #[], .func (.func 127) #[] #[]] 91) _ rfl)
    rw [← hw1] at hb
    have HB1 : Hid (Below w.heap.size w w1) := Lib.hid (by rw [hw1]; exact (Below.refl _ _).alloc (Nat.le_refl _) _)
    have hz1 : w.heap.size < w1.heap.size := (Array.getElem?_eq_some_iff.1 hb).1
    have c0 := Joins.cell_of_block hb 0
    have c1 := Joins.cell_of_block hb 1
    have c2 := Joins.cell_of_block hb 2
    simp only [List.getElem?_toArray, List.getElem?_cons_zero, List.getElem?_cons_succ] at c0 c1 c2
    clear hw1 hb
    go_wp2_with fail
    clear c0 c1 c2
    go_loopw [9, 10] (fun v i wr => ∃ j : Nat, l + j ≤ m + 1 ∧ i = .int .i64 ((l + j : Nat) : Int) ∧ Own wr w.heap.size v (cnL 0 m l j) ∧ Below w.heap.size w wr) (fun _ i _ => m + 1 - (intOf i).toNat)
    case atStart => exact ⟨0, by omega, rfl, World.ownsRow_nil _ _ _ _, HB1.out⟩
    case round =>
      obtain ⟨j, hj, rfl, hown, hb⟩ := hrel
      have HO := Lib.hid hown
      have HB := Lib.hid hb
      have hsz := hb.size
      clear hown hb
      by_cases hjm : l + j ≤ m
      · have hjm' : ((l + j : Nat) : Int) ≤ (m : Int) := by omega
        have HK := Lib.hid (HC.out (l + j) hjm)
        have HSJ := Lib.hid (HS.out j)
        have HLJ := Lib.hid (HLL.out j)
        have HG : Hid (((l + j : Nat) : Int) + 1 = ((l + (j + 1) : Nat) : Int)) := Lib.hid (by omega)
        have hlj : l + j ≤ 12 := by omega
        have hlo : j ≤ 13 := by omega
        have hn1 : l + (j + 1) ≤ m + 1 := by omega
        generalize hN : l + j = N at *
        generalize kdN 0 m N = Z at *
        clear hN
        go_wp2_with fail
        refine (HK.out _).mono ?_
        rintro e w2 ⟨rfl, rfl⟩
        go_wp2_with (at_builtin; refine wpList_app9 rfl _ _ rfl w.heap.size _ (cnL 0 m l j) rfl (HO.out.alloc _) w2.heap.size 1 (Z : Int) rfl (halloc_at _ _ _ rfl) (by rw [HLJ.out]; omega) (by simp; omega) ?_; intro v' w3 ho hg _)
        have hb3 : Below w.heap.size w w3 := (HB.out.alloc (by omega) _).grown hg (by simp; omega) (fun b hbk => (HO.out.lt b hbk).1)
        rw [← HSJ.out] at ho
        have HO3 := Lib.hid ho
        have HB3 := Lib.hid hb3
        clear ho hg hb3
        go_wp2_with fail
        go_roundw
        case rel => exact ⟨j + 1, hn1, by rw [← HG.out], HO3.out, HB3.out⟩
        case measure => simp [intOf]; omega
      · have hjm' : ¬ (((l + j : Nat) : Int) ≤ (m : Int)) := by omega
        have hje : j = m + 1 - l := by omega
        subst hje
        obtain ⟨a, c, rfl, hrd⟩ := own_rd HO.out (by rw [HLL.out]; omega)
        have HR := Lib.hid hrd
        clear hrd
        go_wp2_with fail
        go_ret2
        exact ⟨a, c, rfl, HR.out, HB.out⟩

  · simp at hf
    subst hf
    go_enter Try.func67, Try.ntmps67
    go_wp2_with fail
    refine (counters_any _).mono ?_
    rintro e w1 ⟨rfl, hw1⟩
    have hb := (halloc_at w (.cells #[.func (.func 125) #[] #[], .func (.func 126) #[] #[], .func (.func 127) #[] #[]] 91) _ rfl)
    rw [← hw1] at hb
    have HB1 : Hid (Below w.heap.size w w1) := Lib.hid (by rw [hw1]; exact (Below.refl _ _).alloc (Nat.le_refl _) _)
    have hz1 : w.heap.size < w1.heap.size := (Array.getElem?_eq_some_iff.1 hb).1
    have c0 := Joins.cell_of_block hb 0
    have c1 := Joins.cell_of_block hb 1
    have c2 := Joins.cell_of_block hb 2
    simp only [List.getElem?_toArray, List.getElem?_cons_zero, List.getElem?_cons_succ] at c0 c1 c2
    clear hw1 hb
    go_wp2_with fail
    clear c0 c1 c2
    go_loopw [9, 10] (fun v i wr => ∃ j : Nat, l + j ≤ m + 1 ∧ i = .int .i64 ((l + j : Nat) : Int) ∧ Own wr w.heap.size v (cnL 1 m l j) ∧ Below w.heap.size w wr) (fun _ i _ => m + 1 - (intOf i).toNat)
    case atStart => exact ⟨0, by omega, rfl, World.ownsRow_nil _ _ _ _, HB1.out⟩
    case round =>
      obtain ⟨j, hj, rfl, hown, hb⟩ := hrel
      have HO := Lib.hid hown
      have HB := Lib.hid hb
      have hsz := hb.size
      clear hown hb
      by_cases hjm : l + j ≤ m
      · have hjm' : ((l + j : Nat) : Int) ≤ (m : Int) := by omega
        have HK := Lib.hid (HC.out (l + j) hjm)
        have HSJ := Lib.hid (HS.out j)
        have HLJ := Lib.hid (HLL.out j)
        have HG : Hid (((l + j : Nat) : Int) + 1 = ((l + (j + 1) : Nat) : Int)) := Lib.hid (by omega)
        have hlj : l + j ≤ 12 := by omega
        have hlo : j ≤ 13 := by omega
        have hn1 : l + (j + 1) ≤ m + 1 := by omega
        generalize hN : l + j = N at *
        generalize kdN 1 m N = Z at *
        clear hN
        go_wp2_with fail
        refine (HK.out _).mono ?_
        rintro e w2 ⟨rfl, rfl⟩
        go_wp2_with (at_builtin; refine wpList_app9 rfl _ _ rfl w.heap.size _ (cnL 1 m l j) rfl (HO.out.alloc _) w2.heap.size 1 (Z : Int) rfl (halloc_at _ _ _ rfl) (by rw [HLJ.out]; omega) (by simp; omega) ?_; intro v' w3 ho hg _)
        have hb3 : Below w.heap.size w w3 := (HB.out.alloc (by omega) _).grown hg (by simp; omega) (fun b hbk => (HO.out.lt b hbk).1)
        rw [← HSJ.out] at ho
        have HO3 := Lib.hid ho
        have HB3 := Lib.hid hb3
        clear ho hg hb3
        go_wp2_with fail
        go_roundw
        case rel => exact ⟨j + 1, hn1, by rw [← HG.out], HO3.out, HB3.out⟩
        case measure => simp [intOf]; omega
      · have hjm' : ¬ (((l + j : Nat) : Int) ≤ (m : Int)) := by omega
        have hje : j = m + 1 - l := by omega
        subst hje
        obtain ⟨a, c, rfl, hrd⟩ := own_rd HO.out (by rw [HLL.out]; omega)
        have HR := Lib.hid hrd
        clear hrd
        go_wp2_with fail
        go_ret2
        exact ⟨a, c, rfl, HR.out, HB.out⟩

  · simp at hf
    subst hf
    go_enter Try.func67, Try.ntmps67
    go_wp2_with fail
    refine (counters_any _).mono ?_
    rintro e w1 ⟨rfl, hw1⟩
    have hb := (halloc_at w (.cells #[.func (.func 125) #[] #[], .func (.func 126) #[] #[], .func (.func 127) #[] #[]] 91) _ rfl)
    rw [← hw1] at hb
    have HB1 : Hid (Below w.heap.size w w1) := Lib.hid (by rw [hw1]; exact (Below.refl _ _).alloc (Nat.le_refl _) _)
    have hz1 : w.heap.size < w1.heap.size := (Array.getElem?_eq_some_iff.1 hb).1
    have c0 := Joins.cell_of_block hb 0
    have c1 := Joins.cell_of_block hb 1
    have c2 := Joins.cell_of_block hb 2
    simp only [List.getElem?_toArray, List.getElem?_cons_zero, List.getElem?_cons_succ] at c0 c1 c2
    clear hw1 hb
    go_wp2_with fail
    clear c0 c1 c2
    go_loopw [9, 10] (fun v i wr => ∃ j : Nat, l + j ≤ m + 1 ∧ i = .int .i64 ((l + j : Nat) : Int) ∧ Own wr w.heap.size v (cnL 2 m l j) ∧ Below w.heap.size w wr) (fun _ i _ => m + 1 - (intOf i).toNat)
    case atStart => exact ⟨0, by omega, rfl, World.ownsRow_nil _ _ _ _, HB1.out⟩
    case round =>
      obtain ⟨j, hj, rfl, hown, hb⟩ := hrel
      have HO := Lib.hid hown
      have HB := Lib.hid hb
      have hsz := hb.size
      clear hown hb
      by_cases hjm : l + j ≤ m
      · have hjm' : ((l + j : Nat) : Int) ≤ (m : Int) := by omega
        have HK := Lib.hid (HC.out (l + j) hjm)
        have HSJ := Lib.hid (HS.out j)
        have HLJ := Lib.hid (HLL.out j)
        have HG : Hid (((l + j : Nat) : Int) + 1 = ((l + (j + 1) : Nat) : Int)) := Lib.hid (by omega)
        have hlj : l + j ≤ 12 := by omega
        have hlo : j ≤ 13 := by omega
        have hn1 : l + (j + 1) ≤ m + 1 := by omega
        generalize hN : l + j = N at *
        generalize kdN 2 m N = Z at *
        clear hN
        go_wp2_with fail
        refine (HK.out _).mono ?_
        rintro e w2 ⟨rfl, rfl⟩
        go_wp2_with (at_builtin; refine wpList_app9 rfl _ _ rfl w.heap.size _ (cnL 2 m l j) rfl (HO.out.alloc _) w2.heap.size 1 (Z : Int) rfl (halloc_at _ _ _ rfl) (by rw [HLJ.out]; omega) (by simp; omega) ?_; intro v' w3 ho hg _)
        have hb3 : Below w.heap.size w w3 := (HB.out.alloc (by omega) _).grown hg (by simp; omega) (fun b hbk => (HO.out.lt b hbk).1)
        rw [← HSJ.out] at ho
        have HO3 := Lib.hid ho
        have HB3 := Lib.hid hb3
        clear ho hg hb3
        go_wp2_with fail
        go_roundw
        case rel => exact ⟨j + 1, hn1, by rw [← HG.out], HO3.out, HB3.out⟩
        case measure => simp [intOf]; omega
      · have hjm' : ¬ (((l + j : Nat) : Int) ≤ (m : Int)) := by omega
        have hje : j = m + 1 - l := by omega
        subst hje
        obtain ⟨a, c, rfl, hrd⟩ := own_rd HO.out (by rw [HLL.out]; omega)
        have HR := Lib.hid hrd
        clear hrd
        go_wp2_with fail
        go_ret2
        exact ⟨a, c, rfl, HR.out, HB.out⟩

set_option maxHeartbeats 1000000 in
theorem icbr_any (n : Int) (w : World) :
    Calls Try.prog 28 #[.int .i64 n] w (RetRow w.heap.size (cmL9 0 1 n) (rgC n 12) w) := by
  have H := Lib.hid fun w => icms_any 0 1 _ (by omega) (by omega) rfl (fun n k _ h2 h3 w => iofr_any n k h2 h3 w) n w
  generalize cmL9 0 1 n = R at *
  generalize rgC n 12 = C at *
  go_enter Try.func28, Try.ntmps28
  go_wp2_with fail
  refine (H.out _).mono ?_
  rintro e w1 ⟨a, c, rfl, hr, hb⟩
  have HR := Lib.hid hr
  have HB := Lib.hid hb
  clear hr hb
  go_wp2_with fail
  go_ret2
  exact ⟨a, c, rfl, HR.out, HB.out⟩

set_option maxHeartbeats 1000000 in
theorem icbf_any (n : Int) (w : World) :
    Calls Try.prog 30 #[.int .i64 n] w (RetRow w.heap.size (cmL9 1 0 n) (rgC n 12) w) := by
  have H := Lib.hid fun w => icms_any 1 0 _ (by omega) (by omega) rfl (fun n k h1 h2 h3 w => ioff_any n k h1 h2 h3 w) n w
  generalize cmL9 1 0 n = R at *
  generalize rgC n 12 = C at *
  go_enter Try.func30, Try.ntmps30
  go_wp2_with fail
  refine (H.out _).mono ?_
  rintro e w1 ⟨a, c, rfl, hr, hb⟩
  have HR := Lib.hid hr
  have HB := Lib.hid hb
  clear hr hb
  go_wp2_with fail
  go_ret2
  exact ⟨a, c, rfl, HR.out, HB.out⟩

/-- The sum of the first j counts. -/
def smN (kd n l : Nat) : Nat → Nat
  | 0 => 0
  | j + 1 => smN kd n l j + kdN kd n (l + j)
theorem smN_bd {n : Nat} (hn : n ≤ 12) : ∀ j, 1 + j ≤ n + 1 → smN 2 n 1 j ≤ 10000000000000 * j
  | 0, _ => Nat.le_refl _
  | j + 1, h => by
    have h1 := smN_bd hn j (by omega)
    have h2 := (kd_bd hn (show 1 + j ≤ n by omega)).2.2
    show smN 2 n 1 j + kdN 2 n (1 + j) ≤ _
    omega
def idV9 (n : Int) : Value := .tuple #[.int .i64 (if 1 ≤ n ∧ n ≤ 12 then (smN 2 n.toNat 1 n.toNat : Int) else 0), .int .i64 (rgC n 12)]
theorem idV9_no {n : Int} (h : ¬ (1 ≤ n ∧ n ≤ 12)) : idV9 n = .tuple #[.int .i64 0, .int .i64 2] := by unfold idV9; rw [if_neg h, rg_no h]
theorem idV9_yes {n : Nat} (h1 : 1 ≤ n) (h2 : n ≤ 12) : idV9 (n : Int) = .tuple #[.int .i64 (smN 2 n 1 n : Int), .int .i64 0] := by
  have h : (1 : Int) ≤ (n : Int) ∧ (n : Int) ≤ 12 := by omega
  unfold idV9; rw [if_pos h, rg_yes h, Int.toNat_natCast]

set_option maxRecDepth 100000 in
set_option maxHeartbeats 1000000 in
theorem icid_any (n : Int) (w : World) :
    Calls Try.prog 32 #[.int .i64 n] w fun e w' => e = .returned (idV9 n) ∧ Below w.heap.size w w' := by
  have H := Lib.hid fun w => icms_any 2 1 _ (by omega) (by omega) rfl (fun n k _ h2 h3 w => iofi_any n k h2 h3 w) n w
  by_cases hn : 1 ≤ n ∧ n ≤ 12
  rotate_left
  · rw [idV9_no hn]
    rw [cmL9_no hn, rg_no hn] at H
    clear hn
    go_enter Try.func32, Try.ntmps32
    go_wp2_with fail
    refine (H.out _).mono ?_
    rintro e w1 ⟨a, c, rfl, hr, hb⟩
    have HB := Lib.hid hb
    clear hr hb
    go_wp2_with fail
    go_loop [6, 16] (fun s i => s = .int .i64 0 ∧ i = .int .i64 0) (fun _ i => 0)
    case atStart => exact ⟨rfl, rfl⟩
    case round =>
      obtain ⟨rfl, rfl⟩ := hrel
      go_wp2_with fail
      go_ret2
      exact ⟨rfl, HB.out⟩
  obtain ⟨m, rfl⟩ := Int.eq_ofNat_of_zero_le (show 0 ≤ n by omega)
  rw [idV9_yes (by omega) (by omega)]
  rw [cmL9_yes hn, rg_yes hn] at H
  simp only [Int.toNat_natCast] at H
  have hm1 : 1 ≤ m := by omega
  have hm2 : m ≤ 12 := by omega
  rw [show m + 1 - 1 = m by omega] at H
  have HLL := Lib.hid (cnL_len 2 m 1 m)
  have HAT : Hid (∀ j, j < m → (cnL 2 m 1 m).getD j 0 = (kdN 2 m (1 + j) : Int)) := Lib.hid fun j hj => by simp [cnL, hj]
  clear hn
  generalize cnL 2 m 1 m = R at *
  go_enter Try.func32, Try.ntmps32
  go_wp2_with fail
  refine (H.out _).mono ?_
  rintro e w1 ⟨a, c, rfl, hr, hb⟩
  rw [HLL.out]
  have HB := Lib.hid hb
  have h2 := hr.2
  rcases h2 with h0 | ⟨g, rfl, hg1, hg2, hg3⟩
  · rw [h0] at HLL; have := HLL.out; simp at this; omega
  rw [HLL.out] at hg3
  have HG := Lib.hid hg3
  clear hr hb hg3
  go_wp2_with fail
  go_loop [6, 8, 16] (fun s _ i => ∃ j : Nat, j ≤ m ∧ i = .int .i64 j ∧ s = .int .i64 (smN 2 m 1 j : Int)) (fun _ _ i => m - (intOf i).toNat)
  case atStart => exact ⟨0, by omega, rfl, rfl⟩
  case round =>
    obtain ⟨j, hj, rfl, rfl⟩ := hrel
    by_cases hjm : j < m
    · have hjm' : (j : Int) < (m : Int) := by omega
      have e0 := (HG.out j hjm).1
      rw [HAT.out j hjm] at e0
      have b1 := smN_bd hm2 j (by omega)
      have b2 := (kd_bd hm2 (show 1 + j ≤ m by omega)).2.2
      have HS : Hid ((smN 2 m 1 j : Int) + (kdN 2 m (1 + j) : Int) = (smN 2 m 1 (j + 1) : Int)) := Lib.hid (by show _ = ((smN 2 m 1 j + kdN 2 m (1 + j) : Nat) : Int); simp)
      generalize smN 2 m 1 j = x at *
      generalize kdN 2 m (1 + j) = y at *
      go_wp2_with fail
      go_round
      case rel => exact ⟨j + 1, by omega, by go_num, by rw [← HS.out]⟩
      case measure => simp [intOf]; omega
    · obtain rfl : j = m := by omega
      go_wp2_with fail
      go_ret2
      exact ⟨rfl, HB.out⟩

end Go.Proofs.Ytfghegjlilcafaa
