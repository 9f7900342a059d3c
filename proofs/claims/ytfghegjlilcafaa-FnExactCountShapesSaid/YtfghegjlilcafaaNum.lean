/- Lists of maps told by numbers; the contracts of spec.l01Less by numbers, spec.l02Find. -/
import Derived.Test.YtfghegjlilcafaaClo
import Derived.Test.YtfghegjlilcafaaChk
import Derived.Test.YtfghegjlilcafaaIcm
import Derived.Test.YtfghegjlilcafaaPowx
import Derived.StillTailTactics
namespace Go.Proofs.Ytfghegjlilcafaa
open Go.RowKit

/-- The maps with these numbers. -/
def mE (p : Int) (K : List Nat) : List MapN := K.map fun c => (p, dcd c)

theorem mE_len (p : Int) (K : List Nat) : (mE p K).length = K.length := by unfold mE; rw [List.length_map]
theorem mE_app (p : Int) (K L : List Nat) : mE p (K ++ L) = mE p K ++ mE p L := by unfold mE; rw [List.map_append]
theorem mE_at (p : Int) (K : List Nat) (i : Nat) (hi : i < K.length) : (mE p K).getD i z0 = (p, dcd (K.getD i 0)) := by
  unfold mE
  rw [List.getD_eq_getElem?_getD, List.getD_eq_getElem?_getD, List.getElem?_map, List.getElem?_eq_getElem hi]
  rfl

theorem getD_mem {K : List Nat} {i : Nat} (hi : i < K.length) : K.getD i 0 ∈ K := by
  rw [List.getD_eq_getElem?_getD, List.getElem?_eq_getElem hi]; exact List.getElem_mem _

theorem cm_num {a b : Nat} (ha : a < 3125) (hb : b < 3125) : cm (dcd a) (dcd b) 5 = sg a b := by
  have st : ∀ (A B A' B' x y u v : Nat), A' = 5 * A + x → B' = 5 * B + y → x < 5 → y < 5 → (u = x) → (v = y) → (if sg (A : Int) B = 0 then sg (u : Int) v else sg (A : Int) B) = sg (A' : Int) B' := by
    intro A B A' B' x y u v h1 h2 h3 h4 h5 h6
    subst h5 h6 h1 h2
    simp only [sg]
    repeat' split
    all_goals omega
  have e1 : cm (dcd a) (dcd b) 1 = sg (a / 625 : Nat) (b / 625 : Nat) := by
    conv => lhs; unfold cm
    rw [show cm (dcd a) (dcd b) 0 = sg ((0 : Nat) : Int) ((0 : Nat) : Int) from rfl]; exact st _ _ _ _ (a / 625 % 5) (b / 625 % 5) _ _ (by omega) (by omega) (by omega) (by omega) rfl rfl
  have e2 : cm (dcd a) (dcd b) 2 = sg (a / 125 : Nat) (b / 125 : Nat) := by
    conv => lhs; unfold cm
    rw [e1]; exact st _ _ _ _ (a / 125 % 5) (b / 125 % 5) _ _ (by omega) (by omega) (by omega) (by omega) rfl rfl
  have e3 : cm (dcd a) (dcd b) 3 = sg (a / 25 : Nat) (b / 25 : Nat) := by
    conv => lhs; unfold cm
    rw [e2]; exact st _ _ _ _ (a / 25 % 5) (b / 25 % 5) _ _ (by omega) (by omega) (by omega) (by omega) rfl rfl
  have e4 : cm (dcd a) (dcd b) 4 = sg (a / 5 : Nat) (b / 5 : Nat) := by
    conv => lhs; unfold cm
    rw [e3]; exact st _ _ _ _ (a / 5 % 5) (b / 5 % 5) _ _ (by omega) (by omega) (by omega) (by omega) rfl rfl
  conv => lhs; unfold cm
  rw [e4]; exact st _ _ _ _ (a % 5) (b % 5) _ _ (by omega) (by omega) (by omega) (by omega) rfl rfl

theorem sg_self (a : Int) : sg a a = 0 := by unfold sg; rw [if_neg (by omega), if_neg (by omega)]

theorem or_num {p : Int} {a b : Nat} (ha : vld p a) (hb : vld p b) : orV (sg p p) (cm (dcd a) (dcd b) 5) = sg a b := by
  unfold orV; rw [if_pos (sg_self p), cm_num ha.1 hb.1]

theorem co_num {p : Int} {a b : Nat} (ha : vld p a) (hb : vld p b) : co p p (dcd a) (dcd b) = sg a b := by
  rw [co_or ha.2 hb.2, or_num ha hb]

theorem less_num {p : Int} {a b : Nat} (ha : vld p a) (hb : vld p b) (w : World) :
    Calls Try.prog 105 #[mv p (dcd a), mv p (dcd b)] w fun e w' => e = .returned (.bool (decide (a < b))) ∧ Below w.heap.size w w' := by
  have h := less_any p p (dcd a) (dcd b) (isB_pts ha.2) w
  rw [co_num ha hb] at h
  have e : decide (sg a b = -1) = decide (a < b) := by rw [sg_lt]; exact decide_eq_decide.2 (by omega)
  rw [e] at h
  exact h

theorem dcd_cells {p : Int} {a b : Nat} (ha : vld p a) (hb : vld p b) : eqB p (dcd a) p (dcd b) = decide (a = b) := by
  rw [Bool.eq_iff_iff, decide_eq_true_iff]
  constructor
  · intro h
    exact dcd_inj ha.1 hb.1 (eqB_at h).2
  · rintro rfl; exact eqB_refl _ _



end Go.Proofs.Ytfghegjlilcafaa
