/- Texts read as maps: the contracts of spec.l01Read and spec.ParseMap. -/
import Derived.Test.YtooeiafkhdiepaaMade
import Derived.Test.YtooeiafkhdiepaaAsc
import Derived.Maps.AppendAt
namespace Go.Proofs.Ytooeiafkhdiepaa
open Go.RowKit

/-- The number of a byte, taken as a digit. -/
def bnum (s : ByteArray) (i : Nat) : Int := if h : i < s.size then (s[i].toNat : Int) - 48 else 0

def nsK (s : ByteArray) (k : Nat) : List Int := (List.range k).map (bnum s)

/-- The numbers of all bytes. -/
def nsT (s : ByteArray) : List Int := nsK s s.size

theorem nsK_len (s : ByteArray) (k : Nat) : (nsK s k).length = k := by simp [nsK]

theorem nsK_succ (s : ByteArray) (k : Nat) (h : k < s.size) : nsK s (k + 1) = nsK s k ++ [(s[k].toNat : Int) - 48] := by
  unfold nsK bnum; rw [List.range_succ, List.map_append]; simp [h]

theorem nsT_len (s : ByteArray) : (nsT s).length = s.size := nsK_len s _

/-- Whether a text is that of a map. -/
def rdB (s : ByteArray) : Bool := isB s.size (tL (nsT s))

def rdC (s : ByteArray) : Int := if rdB s = true then 0 else 6

def rdV (s : ByteArray) : Value := .tuple #[mv (resP (rdC s) s.size) (resT (rdC s) (tL (nsT s))), .bool (rdB s)]

def prsV (s : ByteArray) : Value := .tuple #[mv (resP (rdC s) s.size) (resT (rdC s) (tL (nsT s))), .int .i64 (rdC s)]

theorem rdV_yes {s : ByteArray} (h : rdB s = true) : rdV s = .tuple #[mv s.size (tL (nsT s)), .bool true] := by
  have e : rdC s = 0 := by unfold rdC; rw [if_pos h]
  unfold rdV; rw [e, h]; rfl

theorem rdV_no {s : ByteArray} (h : rdB s = false) : rdV s = .tuple #[mv 0 fun _ => 0, .bool false] := by
  have e : rdC s = 6 := by unfold rdC; rw [if_neg (by rw [h]; exact Bool.false_ne_true)]
  unfold rdV; rw [e, h]; rfl

theorem prsV_yes {s : ByteArray} (h : rdB s = true) : prsV s = .tuple #[mv s.size (tL (nsT s)), .int .i64 0] := by
  have e : rdC s = 0 := by unfold rdC; rw [if_pos h]
  unfold prsV; rw [e]; rfl

theorem prsV_no {s : ByteArray} (h : rdB s = false) : prsV s = .tuple #[mv 0 fun _ => 0, .int .i64 6] := by
  have e : rdC s = 6 := by unfold rdC; rw [if_neg (by rw [h]; exact Bool.false_ne_true)]
  unfold prsV; rw [e]; rfl

theorem rdB_len {s : ByteArray} (h : ¬ (1 ≤ s.size ∧ s.size ≤ 5)) : rdB s = false := isB_false_p (by omega)

set_option maxRecDepth 100000 in
set_option maxHeartbeats 2000000 in
theorem sread_any (s : ByteArray) (hs : s.size ≤ 1048576) (w : World) :
    Calls Try.prog 99 #[.string s] w fun e w' => e = .returned (rdV s) ∧ Below w.heap.size w w' := by
  by_cases h15 : 1 ≤ s.size ∧ s.size ≤ 5
  · obtain ⟨h1, h5⟩ := h15
    obtain ⟨i0, hi, hz0', hz1', hz2'⟩ := info_parts info_int
    have hlo : ¬ ((s.size : Int) < 1) := by omega
    have hhi : ¬ (5 < (s.size : Int)) := by omega
    have HLT := Lib.hid (nsT_len s)
    go_enter Try.func99, Try.ntmps99
    go_wp2_with fail
    go_loopw [4, 5] (fun v i wr => ∃ k : Nat, k ≤ s.size ∧ i = .int .i64 k ∧ wr.ownsRow (w.heap.size + 1) 2 1 v (nsK s k).length ((nsK s k).map (Value.int .i64)) ∧ Below (w.heap.size + 1) (w.alloc (.cells (mcells 0 fun _ => 0) 26)) wr) (fun _ i _ => s.size - (intOf i).toNat)
    case atStart =>
      have ho := own_empty (w.alloc (.cells (mcells 0 fun _ => 0) 26)) (w.heap.size + 1) (by simp)
      simp only [World.size_alloc] at ho
      exact ⟨0, by omega, rfl, ho, (Below.refl _ _).alloc (by simp) _⟩
    case round =>
      obtain ⟨k, hk, rfl, hown, hb⟩ := hrel
      have hsz := hb.size
      simp at hsz
      have Hb := Lib.hid hb
      have hlen := nsK_len s k
      clear hb
      by_cases hkl : k < s.size
      · have hkl' : (k : Int) < (s.size : Int) := by omega
        have HNS := Lib.hid (nsK_succ s k hkl)
        have hby : (s[k].toNat : Int) < 256 := by have := s[k].toNat_lt; omega
        have hby0 : (0 : Int) ≤ (s[k].toNat : Int) := by omega
        go_wp2_with (at_builtin; refine wpList_append_own _ rfl _ _ 37 rfl (w.heap.size + 1) 2 i0 (.int .i64 0) 1 8 Try.underlying37 hi hz0' hz1' hz2' rfl (by decide) _ _ _ rfl (hown.alloc _) ⟨wr.heap.size, 0, none⟩ 1 1 [.int .i64 ((s[k].toNat : Int) - 48)] rfl rfl (cell_one_new _ _ _) (ints_oneCell .i64 [(s[k].toNat : Int) - 48]) (by unfold maxLen; omega) (by omega) (by simp; omega) ?_; intro v' w2 hown' hgrow2 _)
        have HO2 := Lib.hid hown'
        have s2 := hgrow2.size
        simp at s2
        have HB2 : Hid (Below (w.heap.size + 1) (w.alloc (.cells (mcells 0 fun _ => 0) 26)) w2) := Lib.hid ((Hb.out.alloc (by omega) _).grown hgrow2 (by simp; omega) (fun j hj => (hown.lt j hj).1))
        clear hown hown' hgrow2
        go_roundw
        case rel =>
          refine ⟨k + 1, by omega, by go_num, ?_, HB2.out⟩
          rw [HNS.out]; simpa using HO2.out
        case measure => simp [intOf]; omega
      · obtain rfl : k = s.size := by omega
        have hown0 : Own wr (w.heap.size + 1) u4 (nsT s) := hown
        obtain ⟨a, cap, rfl, hrd⟩ := own_rd hown0 (by rw [nsT_len]; omega)
        have hrow := hrd.inRow
        have HR := Lib.hid hrow
        have hblk := (Hb.out.block w.heap.size (by omega)).trans (halloc_at w _ _ rfl)
        have hne : nsT s ≠ [] := fun e => by have := nsT_len s; rw [e] at this; simp at this; omega
        obtain ⟨b, off, rfl, hlt, hin⟩ := hrow.resolve_left hne
        have HIN := Lib.hid hin
        have HBK := Lib.hid hblk
        obtain ⟨z0, z1, z2, z3, z4, z5⟩ := blk6 hblk
        have hfr := blk_free hblk
        clear hlen hown hown0 hrd hrow hin hblk
        have hL := HLT.out
        have HQ := Lib.hid (rdV_yes (s := s))
        have HN := Lib.hid (rdV_no (s := s))
        have hsub : IntKind.i64.wrap (((nsT s).length : Int) - 1) = ((nsT s).length : Int) - 1 := IntWalk.i64_in _ (by omega)
        have HSUB := Lib.hid hsub
        have hl1 : 1 ≤ (nsT s).length := by omega
        have hl5 : (nsT s).length ≤ 5 := by omega
        have hL' : (s.size : Int) = ((nsT s).length : Int) := by omega
        have HG : Hid (isB (nsT s).length (tL (nsT s)) = rdB s) := Lib.hid (by unfold rdB; rw [hL'])
        have HMD := Lib.hid fun w h => made_any (nsT s) hl1 hl5 (some ⟨b, off, none⟩) cap w h
        have HLL := Lib.hid hL
        clear hL hL' hsub
        generalize nsT s = L at *
        go_wp2_with fail
        go_loopw [6] (fun i wq => ∃ j : Nat, j ≤ L.length ∧ i = .int .i64 j ∧ (∀ x, x < j → 0 ≤ L.getD x 0 ∧ L.getD x 0 ≤ (L.length : Int) - 1) ∧ wq = wr) (fun i _ => L.length - (intOf i).toNat)
        case atStart => exact ⟨0, by omega, rfl, fun x hx => by omega, rfl⟩
        case round =>
          obtain ⟨j, hj, rfl, hok, rfl⟩ := hrel
          have HOK := Lib.hid hok
          clear hok
          by_cases hjl : j < L.length
          · have hjl' : (j : Int) < (L.length : Int) := by omega
            have e1 := HIN.out j hjl
            have hs1 := HSUB.out
            cases hin1 : inB (L.getD j 0) 0 ((L.length : Int) - 1)
            · have hbad : isB L.length (tL L) = false := isB_false_i j (by omega) (fun ho => by
                have := inB_true.2 (ho.1 (by omega))
                unfold tL at this
                rw [hin1] at this; cases this)
              rw [HG.out] at hbad
              have HV := Lib.hid (HN.out hbad)
              clear hbad
              generalize L.getD j 0 = X at *
              go_wp2_with (go_at_call 95; refine (in_any _ _ _ _).mono ?_; rintro e w' ⟨rfl, rfl⟩)
              refine bodyPost_ret (v := .tuple #[mv 0 fun _ => 0, .bool false]) (by simp [results, Try.results99, go_sem, *]) rfl ⟨by rw [HV.out], ?_⟩
              have hws := Hb.out.size
              exact ((((((bel_new Hb.out (by omega)).setCell (by simp) _).setCell (by simp) _).setCell (by simp) _).setCell (by simp) _).setCell (by simp) _).setCell (by simp) _
            · have HI := Lib.hid (inB_true.1 hin1)
              generalize hX : L.getD j 0 = X at *
              have HX := Lib.hid hX
              clear hX
              go_wp2_with (go_at_call 95; refine (in_any _ _ _ _).mono ?_; rintro e w' ⟨rfl, rfl⟩)
              clear hs1
              go_roundw
              case rel => exact ⟨j + 1, by omega, by go_num, fun x hx => by rcases Nat.lt_succ_iff_lt_or_eq.1 hx with h | h; exact HOK.out x h; subst h; rw [HX.out]; exact HI.out, trivial⟩
              case measure => simp [intOf]; omega
          · have hgood : isB L.length (tL L) = true := isB_list hl1 hl5 (fun x hx => HOK.out x (by omega))
            rw [HG.out] at hgood
            have HV := HQ.out hgood
            rw [show (s.size : Int) = (L.length : Int) by have := HLL.out; omega] at HV
            have HV := Lib.hid HV
            clear hgood
            go_wp2_with fail
            refine (HMD.out _ HR.out).mono ?_
            rintro e w1 ⟨rfl, hb⟩
            have hbk1 := (hb.block w.heap.size (by omega)).trans HBK.out
            obtain ⟨y0, y1, y2, y3, y4, y5⟩ := blk6 hbk1
            have hfr1 := blk_free hbk1
            have Hb1 := Lib.hid hb
            clear hb
            simp only [mv, mcells]
            go_wp2_with fail
            refine bodyPost_ret (v := .tuple #[mv L.length (tL L), .bool true]) (by simp [results, Try.results99, go_sem, *]) rfl ⟨by rw [HV.out], ?_⟩
            have hws := Hb.out.size
            exact (((((((bel_new Hb.out (by omega)).trans (Hb1.out.mono (by simp at hws; omega))).setCell (by simp) _).setCell (by simp) _).setCell (by simp) _).setCell (by simp) _).setCell (by simp) _).setCell (by simp) _
  · have hbad := rdB_len h15
    rw [rdV_no hbad]
    clear hbad
    by_cases h0 : (s.size : Int) < 1
    · clear h15
      go_enter Try.func99, Try.ntmps99
      go_wp2_with fail
      refine bodyPost_ret (v := .tuple #[mv 0 fun _ => 0, .bool false]) (by simp [results, Try.results99, go_sem]) rfl ⟨rfl, ?_⟩
      (repeat' (first | (with_reducible exact Below.refl _ _) | (with_reducible refine Below.alloc ?_ ?_ _) | (with_reducible refine Below.setCell ?_ ?_ _) | (with_reducible refine Below.drew ?_) | (with_reducible refine below_drewN ?_ _) | (with_reducible refine Below.trans ?_ (Below.mono (Hid.out (by assumption)) ?_)) | omega | (simp; done) | (simp; omega)))
    · have h6 : 5 < (s.size : Int) := by omega
      clear h15
      go_enter Try.func99, Try.ntmps99
      go_wp2_with fail
      refine bodyPost_ret (v := .tuple #[mv 0 fun _ => 0, .bool false]) (by simp [results, Try.results99, go_sem]) rfl ⟨rfl, ?_⟩
      (repeat' (first | (with_reducible exact Below.refl _ _) | (with_reducible refine Below.alloc ?_ ?_ _) | (with_reducible refine Below.setCell ?_ ?_ _) | (with_reducible refine Below.drew ?_) | (with_reducible refine below_drewN ?_ _) | (with_reducible refine Below.trans ?_ (Below.mono (Hid.out (by assumption)) ?_)) | omega | (simp; done) | (simp; omega)))

end Go.Proofs.Ytooeiafkhdiepaa
