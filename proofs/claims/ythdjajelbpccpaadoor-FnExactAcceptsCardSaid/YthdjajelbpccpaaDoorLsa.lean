/- Acceptors told without Go: the points that are reached, the first word that tells two points apart, the first points of the classes of the least acceptor. -/
import Derived.Test.YthdjajelbpccpaaDoorBfs
import Derived.Test.YthdjajelbpccpaaDoorChk
import Derived.Test.YthdjajelbpccpaaDoorPts
namespace Go.Proofs.YthdjajelbpccpaaDoor
open Go.RowKit

/-- Whether maps and points are an acceptor. -/
def accB (L : List MapN) (F : Int) (S : List Int) : Bool := decide (chkC L [] = 0) && inB F 0 (fst0 L - 1) && ptsB (fst0 L) S

/-- A list of maps of p points. -/
structure Lok (L : List MapN) (p : Nat) : Prop where
  p1 : 1 ≤ p
  p5 : p ≤ 5
  l1 : 1 ≤ L.length
  l6 : L.length ≤ 6
  pts : ∀ i, i < L.length → (L.getD i z0).1 = (p : Int)
  bd : ∀ i, i < L.length → ∀ x, x < p → 0 ≤ (L.getD i z0).2 x ∧ (L.getD i z0).2 x < (p : Int)
  past : ∀ i, i < L.length → ∀ x, p ≤ x → x < 5 → (L.getD i z0).2 x = 0

theorem Lok.fst {L : List MapN} {p : Nat} (h : Lok L p) : fst0 L = (p : Int) := h.pts 0 h.l1

theorem lok_of {L : List MapN} (h : chkC L [] = 0) : Lok L (fst0 L).toNat := by
  unfold chkC at h
  rw [List.append_nil] at h
  split at h
  · rename_i h1
    split at h
    · rename_i h2
      split at h
      · rename_i h3
        unfold sizeB at h2
        simp at h2
        have e0 := allB_at h1 0 (by omega)
        have e1 := isB_pts e0
        have ef : fst0 L = (L.getD 0 z0).1 := rfl
        have hp : ∀ i, i < L.length → (L.getD i z0).1 = ((fst0 L).toNat : Int) := fun i hi => by have := sameB_at h3 i hi; omega
        refine ⟨by omega, by omega, h2.1, h2.2, hp, fun i hi x hx => ?_, fun i hi x hx h5 => ?_⟩
        · have := ok_at (allB_at h1 i hi) x (by rw [hp i hi]; omega)
          rw [hp i hi] at this
          exact ⟨this.1, this.2.1⟩
        · exact ok_past (allB_at h1 i hi) x (by rw [hp i hi]; omega) h5
      · exact absurd h (by decide)
    · exact absurd h (by decide)
  · exact absurd h (by decide)

theorem accB_true {L : List MapN} {F : Int} {S : List Int} (h : accB L F S = true) : Lok L (fst0 L).toNat ∧ 0 ≤ F ∧ F < fst0 L ∧ ptsB (fst0 L) S = true ∧ chkC L [] = 0 := by
  unfold accB at h
  rw [Bool.and_eq_true, Bool.and_eq_true] at h
  obtain ⟨⟨h1, h2⟩, h3⟩ := h
  have h1 := of_decide_eq_true h1
  have := inB_true.1 h2
  exact ⟨lok_of h1, this.1, by omega, h3, h1⟩

/-- The point to which a map leads a point. -/
def nxP (L : List MapN) (x i : Nat) : Nat := ((L.getD i z0).2 x).toNat

theorem Lok.nx {L : List MapN} {p : Nat} (h : Lok L p) {x i : Nat} (hx : x < p) (hi : i < L.length) : nxP L x i < p ∧ (L.getD i z0).2 x = (nxP L x i : Int) := by
  have := h.bd i hi x hx
  unfold nxP
  omega

/-- Whether a point is a last one. -/
def lastB (S : List Int) (x : Nat) : Bool := S.contains (x : Int)

/-- The points that are reached, with their first words. -/
def rchP (L : List MapN) (F : Nat) : List (Nat × List Int) := brun (nxP L) L.length F 25

/-- The step of two acceptors that read the same word. -/
def nxQ (L M : List MapN) (z : Nat × Nat) (i : Nat) : Nat × Nat := (nxP L z.1 i, nxP M z.2 i)

def accQ (S T : List Int) (z : Nat × Nat) : Bool := lastB S z.1 != lastB T z.2

def rchQ (L M : List MapN) (x y : Nat) : List ((Nat × Nat) × List Int) := brun (nxQ L M) L.length (x, y) 25

/-- The first word that tells a point of one acceptor from a point of another one. -/
def aprt (L : List MapN) (S : List Int) (M : List MapN) (T : List Int) (x y : Nat) : Option (List Int) := bfirst (accQ S T) (rchQ L M x y)

/-- The step by numbers of places. -/
def nxC (L M : List MapN) (c i : Nat) : Nat := nxP L (c / 5) i * 5 + nxP M (c % 5) i

def accC (S T : List Int) (c : Nat) : Bool := lastB S (c / 5) != lastB T (c % 5)

def cdQ (z : Nat × Nat) : Nat := z.1 * 5 + z.2

def inP (p m : Nat) (z : Nat × Nat) : Prop := z.1 < p ∧ z.2 < m

theorem nxQ_in {L M : List MapN} {p m : Nat} (hL : Lok L p) (hM : Lok M m) (hk : M.length = L.length) (z : Nat × Nat) (i : Nat) (hi : i < L.length) (hz : inP p m z) : inP p m (nxQ L M z i) :=
  ⟨(hL.nx hz.1 hi).1, (hM.nx hz.2 (by omega)).1⟩

theorem cdQ_inj {p m : Nat} (h5 : m ≤ 5) (z u : Nat × Nat) (hz : inP p m z) (hu : inP p m u) (e : cdQ z = cdQ u) : z = u := by
  obtain ⟨a, b⟩ := z
  obtain ⟨c, d⟩ := u
  unfold cdQ inP at *
  simp only [] at *
  have : a = c := by omega
  subst this
  congr 1
  omega

theorem cdQ_nx {L M : List MapN} {p m : Nat} (h5 : m ≤ 5) (z : Nat × Nat) (i : Nat) (_ : i < L.length) (hz : inP p m z) : cdQ (nxQ L M z i) = nxC L M (cdQ z) i := by
  obtain ⟨a, b⟩ := z
  have hb : b < 5 := Nat.lt_of_lt_of_le hz.2 h5
  unfold cdQ nxQ nxC
  simp only []
  rw [show (a * 5 + b) / 5 = a by omega, show (a * 5 + b) % 5 = b by omega]

theorem rchP_ok {L : List MapN} {p F : Nat} (hL : Lok L p) (hF : F < p) (j : Nat) : Bok (· < p) j (brun (nxP L) L.length F j) :=
  brun_ok (P := fun x => x < p) hF (fun _ _ hi hx => (hL.nx hx hi).1) j

theorem rchP_len {L : List MapN} {p F : Nat} (hL : Lok L p) (hF : F < p) (j : Nat) : (brun (nxP L) L.length F j).length ≤ p :=
  (rchP_ok hL hF j).len id (fun _ h => h) (fun _ _ _ _ e => e)

theorem rchQ_ok {L M : List MapN} {p m x y : Nat} (hL : Lok L p) (hM : Lok M m) (hk : M.length = L.length) (hx : x < p) (hy : y < m) (j : Nat) : Bok (inP p m) j (brun (nxQ L M) L.length (x, y) j) :=
  brun_ok ⟨hx, hy⟩ (fun z i hi hz => nxQ_in hL hM hk z i hi hz) j

theorem rchQ_len {L M : List MapN} {p m x y : Nat} (hL : Lok L p) (hM : Lok M m) (hk : M.length = L.length) (hx : x < p) (hy : y < m) (j : Nat) : (brun (nxQ L M) L.length (x, y) j).length ≤ 25 :=
  (rchQ_ok hL hM hk hx hy j).len cdQ (fun z hz => by have := hL.p5; have := hM.p5; unfold cdQ; have h1 := hz.1; have h2 := hz.2; omega) (cdQ_inj hM.p5)

theorem rchC_eq {L M : List MapN} {p m x y : Nat} (hL : Lok L p) (hM : Lok M m) (hk : M.length = L.length) (hx : x < p) (hy : y < m) (j : Nat) : brun (nxC L M) L.length (x * 5 + y) j = pmap cdQ (brun (nxQ L M) L.length (x, y) j) :=
  brun_map (f := cdQ) (s := (x, y)) ⟨hx, hy⟩ (fun z i hi hz => nxQ_in hL hM hk z i hi hz) (cdQ_inj hM.p5) (fun z i hi hz => cdQ_nx hM.p5 z i hi hz) j

theorem aprt_code {L M : List MapN} {p m x y : Nat} (S T : List Int) (hL : Lok L p) (hM : Lok M m) (hk : M.length = L.length) (hx : x < p) (hy : y < m) : bfirst (accC S T) (brun (nxC L M) L.length (x * 5 + y) 25) = aprt L S M T x y := by
  rw [rchC_eq hL hM hk hx hy]
  refine bfirst_map fun z hz => ?_
  have h := (rchQ_ok hL hM hk hx hy 25).all z hz
  obtain ⟨⟨a, b⟩, wd⟩ := z
  have hb : b < 5 := Nat.lt_of_lt_of_le h.2 hM.p5
  unfold accC cdQ accQ
  simp only []
  rw [show (a * 5 + b) / 5 = a by omega, show (a * 5 + b) % 5 = b by omega]

theorem rchC_bd {L M : List MapN} {p m x y : Nat} (hL : Lok L p) (hM : Lok M m) (hk : M.length = L.length) (hx : x < p) (hy : y < m) (j : Nat) : ∀ z ∈ brun (nxC L M) L.length (x * 5 + y) j, z.1 / 5 < p ∧ z.1 % 5 < m ∧ z.1 < 25 := by
  rw [rchC_eq hL hM hk hx hy]
  intro z hz
  obtain ⟨u, hu, rfl⟩ := List.mem_map.1 hz
  have h := (rchQ_ok hL hM hk hx hy j).all u hu
  obtain ⟨⟨a, b⟩, wd⟩ := u
  have h1 : a < p := h.1
  have h2 : b < m := h.2
  have := hL.p5
  have := hM.p5
  unfold cdQ
  simp only []
  omega

/-- A point is read as the pair of it with itself. -/
theorem rch_diag {L : List MapN} (x : Nat) (j : Nat) : brun (nxQ L L) L.length (x, x) j = pmap (fun z => (z, z)) (brun (nxP L) L.length x j) :=
  brun_map (f := fun z => (z, z)) (s := x) (P := fun _ => True) trivial (fun _ _ _ _ => trivial) (fun _ _ _ _ e => congrArg Prod.fst e) (fun _ _ _ _ => rfl) j

theorem aprt_none_last (L : List MapN) (S : List Int) (x : Nat) : aprt L S L [] x x = bfirst (lastB S) (rchP L x) := by
  unfold aprt rchQ rchP
  rw [rch_diag]
  refine bfirst_map fun z _ => ?_
  unfold accQ
  simp only []
  rw [show lastB [] z.1 = false from rfl]
  simp

theorem aprt_self (L : List MapN) (S : List Int) (x : Nat) : aprt L S L S x x = none := by
  unfold aprt rchQ
  rw [rch_diag]
  refine bfirst_none fun j z hz => ?_
  have hm : z ∈ pmap (fun z => (z, z)) (brun (nxP L) L.length x 25) := List.mem_of_getElem? hz
  obtain ⟨u, _, rfl⟩ := List.mem_map.1 hm
  unfold accQ
  simp

theorem aprt_swap {L : List MapN} (S : List Int) (x y : Nat) : aprt L S L S y x = aprt L S L S x y := by
  unfold aprt rchQ
  rw [show brun (nxQ L L) L.length (y, x) 25 = pmap (fun z => (z.2, z.1)) (brun (nxQ L L) L.length (x, y) 25) from
    brun_map (f := fun z : Nat × Nat => (z.2, z.1)) (s := (x, y)) (P := fun _ => True) trivial (fun _ _ _ _ => trivial) (fun a b _ _ e => by
      obtain ⟨a1, a2⟩ := a
      obtain ⟨b1, b2⟩ := b
      injection e with e1 e2
      simp only [] at e1 e2
      rw [e1, e2]) (fun _ _ _ _ => rfl) 25]
  refine bfirst_map fun z _ => ?_
  unfold accQ
  simp only []
  cases lastB S z.1.1 <;> cases lastB S z.1.2 <;> rfl

/-- Whether two points of an acceptor are in the same class. -/
def likP (L : List MapN) (S : List Int) (x y : Nat) : Bool := (aprt L S L S x y).isNone

theorem likP_self (L : List MapN) (S : List Int) (x : Nat) : likP L S x x = true := by unfold likP; rw [aprt_self]; rfl
theorem likP_swap (L : List MapN) (S : List Int) (x y : Nat) : likP L S y x = likP L S x y := by unfold likP; rw [aprt_swap]

/-- The first number of a list whose point is in a class; the length if there is none. -/
def clsN (A : Nat → Nat → Bool) (p : Nat) : List Nat → Nat
  | [] => 0
  | q :: fs => if A p q = true then 0 else clsN A p fs + 1

theorem clsN_le (A : Nat → Nat → Bool) (p : Nat) : ∀ fs, clsN A p fs ≤ fs.length
  | [] => Nat.le_refl _
  | q :: fs => by
    have := clsN_le A p fs
    unfold clsN
    split
    · omega
    · simp; omega

theorem clsN_at {A : Nat → Nat → Bool} {p : Nat} : ∀ {fs : List Nat} {k : Nat}, k < fs.length → A p (fs.getD k 0) = true → (∀ j, j < k → A p (fs.getD j 0) = false) → clsN A p fs = k
  | [], k, hk, _, _ => by simp at hk
  | q :: fs, 0, _, h, _ => by unfold clsN; rw [if_pos (by simpa using h)]
  | q :: fs, k + 1, hk, h, hb => by
    unfold clsN
    rw [if_neg (by have := hb 0 (by omega); simp at this; rw [this]; exact Bool.false_ne_true), clsN_at (fs := fs) (k := k) (by simpa using hk) (by simpa using h) (fun j hj => by have := hb (j + 1) (by omega); simpa using this)]

theorem clsN_none {A : Nat → Nat → Bool} {p : Nat} : ∀ {fs : List Nat}, (∀ j, j < fs.length → A p (fs.getD j 0) = false) → clsN A p fs = fs.length
  | [], _ => rfl
  | q :: fs, hb => by
    unfold clsN
    rw [if_neg (by have := hb 0 (by simp); simp at this; rw [this]; exact Bool.false_ne_true), clsN_none (fs := fs) (fun j hj => by have := hb (j + 1) (by simpa using hj); simpa using this)]
    rfl

theorem clsN_app {A : Nat → Nat → Bool} {p : Nat} (gs : List Nat) : ∀ {fs : List Nat}, clsN A p fs < fs.length → clsN A p (fs ++ gs) = clsN A p fs
  | [], h => by simp at h
  | q :: fs, h => by
    have e : ∀ l, clsN A p (q :: l) = if A p q = true then 0 else clsN A p l + 1 := fun _ => rfl
    rw [List.cons_append, e, e]
    rw [e] at h
    split
    · rfl
    · rename_i hn
      rw [if_neg hn] at h
      rw [clsN_app gs (fs := fs) (by simpa using h)]

theorem clsN_new {A : Nat → Nat → Bool} {p : Nat} (hself : A p p = true) : ∀ {fs : List Nat}, clsN A p fs = fs.length → clsN A p (fs ++ [p]) = fs.length
  | [], _ => by
    show clsN A p [p] = 0
    unfold clsN
    rw [if_pos hself]
  | q :: fs, h => by
    unfold clsN at h
    split at h
    · simp at h
    · rename_i hn
      show clsN A p (q :: (fs ++ [p])) = _
      unfold clsN
      rw [if_neg hn, clsN_new hself (fs := fs) (by simpa using h)]
      rfl

/-- One point more: a class of its own, or one that has been met. -/
def fstP (A : Nat → Nat → Bool) (fs : List Nat) (p : Nat) : List Nat := if clsN A p fs < fs.length then fs else fs ++ [p]

/-- The first points of the classes. -/
def fstsP (A : Nat → Nat → Bool) (R : List Nat) : List Nat := R.foldl (fstP A) []

theorem fstsP_snoc (A : Nat → Nat → Bool) (R : List Nat) (p : Nat) : fstsP A (R ++ [p]) = fstP A (fstsP A R) p := by unfold fstsP; rw [List.foldl_append]; rfl

theorem fstP_keep {A : Nat → Nat → Bool} {fs : List Nat} {p q : Nat} (h : clsN A q fs < fs.length) : clsN A q (fstP A fs p) = clsN A q fs ∧ clsN A q (fstP A fs p) < (fstP A fs p).length := by
  unfold fstP
  split
  · exact ⟨rfl, h⟩
  · rw [clsN_app _ h]
    refine ⟨rfl, by simp; omega⟩

theorem fstP_own {A : Nat → Nat → Bool} {fs : List Nat} {p : Nat} (hself : A p p = true) : clsN A p (fstP A fs p) = clsN A p fs ∧ clsN A p fs < (fstP A fs p).length := by
  have hle := clsN_le A p fs
  unfold fstP
  split
  · exact ⟨rfl, by assumption⟩
  · have e : clsN A p fs = fs.length := by omega
    rw [clsN_new hself e, e]
    exact ⟨rfl, by simp⟩

theorem fstsP_len (A : Nat → Nat → Bool) (R : List Nat) : (fstsP A R).length ≤ R.length := by
  have key : ∀ (R fs : List Nat), (R.foldl (fstP A) fs).length ≤ fs.length + R.length := by
    intro R
    induction R with
    | nil => intro fs; simp
    | cons p R ih =>
      intro fs
      have h := ih (fstP A fs p)
      have h2 : (fstP A fs p).length ≤ fs.length + 1 := by unfold fstP; split <;> simp
      simp only [List.foldl_cons, List.length_cons]
      omega
  have := key R []
  unfold fstsP
  simpa using this

theorem fstsP_mem (A : Nat → Nat → Bool) (R : List Nat) : ∀ x ∈ fstsP A R, x ∈ R := by
  have key : ∀ (R fs : List Nat), ∀ x ∈ R.foldl (fstP A) fs, x ∈ fs ∨ x ∈ R := by
    intro R
    induction R with
    | nil => intro fs x hx; exact Or.inl hx
    | cons p R ih =>
      intro fs x hx
      rcases ih (fstP A fs p) x hx with h | h
      · unfold fstP at h
        split at h
        · exact Or.inl h
        · rw [List.mem_append, List.mem_singleton] at h
          rcases h with h | rfl
          · exact Or.inl h
          · exact Or.inr List.mem_cons_self
      · exact Or.inr (List.mem_cons_of_mem _ h)
  intro x hx
  rcases key R [] x hx with h | h
  · cases h
  · exact h

/-- The class of a point that is reached is among those of all. -/
theorem fstsP_cls {A : Nat → Nat → Bool} (hself : ∀ x, A x x = true) (R : List Nat) : ∀ x ∈ R, clsN A x (fstsP A R) < (fstsP A R).length := by
  have key : ∀ (R fs : List Nat) (x : Nat), (x ∈ R ∨ clsN A x fs < fs.length) → clsN A x (R.foldl (fstP A) fs) < (R.foldl (fstP A) fs).length := by
    intro R
    induction R with
    | nil => intro fs x h; rcases h with h | h; cases h; exact h
    | cons p R ih =>
      intro fs x h
      refine ih (fstP A fs p) x ?_
      rcases h with h | h
      · rcases List.mem_cons.1 h with rfl | h
        · have := fstP_own (fs := fs) (hself x)
          exact Or.inr (by rw [this.1]; exact this.2)
        · exact Or.inl h
      · exact Or.inr (fstP_keep h).2
  intro x hx
  exact key R [] x (Or.inl hx)

/-- A class that has been told stays so. -/
theorem fstsP_stay {A : Nat → Nat → Bool} (R R' : List Nat) (x : Nat) (h : clsN A x (fstsP A R) < (fstsP A R).length) : clsN A x (fstsP A (R ++ R')) = clsN A x (fstsP A R) := by
  have key : ∀ (R' fs : List Nat), clsN A x fs < fs.length → clsN A x (R'.foldl (fstP A) fs) = clsN A x fs := by
    intro R'
    induction R' with
    | nil => intro fs _; rfl
    | cons p R ih =>
      intro fs h
      have hk := fstP_keep (p := p) h
      show clsN A x (R.foldl (fstP A) (fstP A fs p)) = _
      rw [ih _ hk.2, hk.1]
  unfold fstsP at *
  rw [List.foldl_append]
  exact key R' _ h

/-- The points that are reached, in the order of their first words. -/
def ptsP (L : List MapN) (F : Nat) : List Nat := (rchP L F).map Prod.fst

theorem ptsP_lt {L : List MapN} {p F : Nat} (hL : Lok L p) (hF : F < p) : ∀ x ∈ ptsP L F, x < p := fun x hx => by
  obtain ⟨y, hy, rfl⟩ := List.mem_map.1 hx
  exact (rchP_ok hL hF 25).all y hy

theorem ptsP_len {L : List MapN} {p F : Nat} (hL : Lok L p) (hF : F < p) : (ptsP L F).length ≤ p := by
  unfold ptsP; rw [List.length_map]; exact rchP_len hL hF 25

theorem ptsP_nx {L : List MapN} {p F : Nat} (hL : Lok L p) (hF : F < p) {x i : Nat} (hx : x ∈ ptsP L F) (hi : i < L.length) : nxP L x i ∈ ptsP L F := by
  obtain ⟨y, hy, rfl⟩ := List.mem_map.1 hx
  obtain ⟨j, hj⟩ := List.mem_iff_getElem?.1 hy
  have := brun_closed (N := 25) (fun j => Nat.le_trans (rchP_len hL hF j) (by have := hL.p5; omega)) hj hi
  obtain ⟨z, hz, e⟩ := metB_true.1 this
  exact List.mem_map.2 ⟨z, hz, e⟩

/-- The first points of the classes of the least acceptor. -/
def lfsP (L : List MapN) (F : Nat) (S : List Int) : List Nat := fstsP (likP L S) (ptsP L F)

/-- The maps of the least acceptor. -/
def lmpP (L : List MapN) (F : Nat) (S : List Int) (i : Nat) : MapN :=
  (((lfsP L F S).length : Int), fun c => if c < (lfsP L F S).length then (clsN (likP L S) (nxP L ((lfsP L F S).getD c 0) i) (lfsP L F S) : Int) else 0)

def lmsP (L : List MapN) (F : Nat) (S : List Int) : List MapN := (List.range L.length).map (lmpP L F S)

/-- The last points of the least acceptor. -/
def llsP (L : List MapN) (F : Nat) (S : List Int) : List Int := ascK (fun c => lastB S ((lfsP L F S).getD c 0)) (lfsP L F S).length

end Go.Proofs.YthdjajelbpccpaaDoor
