/- Ideals, inverses and what lies below, of a monoid of maps told by their numbers. -/
import Derived.Test.YtiogagaclhjdaaaFilt
import Derived.Test.YtiogagaclhjdaaaWord
import Derived.Test.YtiogagaclhjdaaaPowx
import Derived.Test.YtiogagaclhjdaaaSl
namespace Go.Proofs.Ytiogagaclhjdaaa
open Go.RowKit

/-- A monoid of maps, told by their numbers. -/
structure Mon (p : Int) (K : List Nat) : Prop where
  p1 : 1 ≤ p
  p5 : p ≤ 5
  vl : ∀ c ∈ K, vld p c
  one : idC p ∈ K
  mul : ∀ a ∈ K, ∀ b ∈ K, mulC p a b ∈ K
  srt : srtd K
  le : K.length ≤ 300

theorem good_vld {L : List MapN} (hg : GoodL L) : ∀ c ∈ codes L, vld (fst0 L) c := fun c hc => by
  obtain ⟨x, hx, rfl⟩ := List.mem_map.1 hc
  obtain ⟨k, hk, rfl⟩ := List.getElem_of_mem hx
  have h := hg.ok k hk
  rw [List.getD_eq_getElem?_getD, List.getElem?_eq_getElem hk] at h
  simp only [Option.getD_some] at h
  rw [← h.1]
  exact vld_ecd h.2

theorem mon_els {L O : List MapN} (hc : elsC L O = 0) : Mon (fst0 L) (elsK L) := by
  have hg := (chk_good (elsC_good hc)).1
  have hv := good_vld hg
  have h3 : (cfin (fst0 L) (codes L)).E.length ≤ 300 := by
    unfold elsC at hc
    rw [if_pos (elsC_good hc)] at hc
    by_cases h : 300 < (cfin (fst0 L) (codes L)).E.length
    · rw [if_pos h] at hc; cases hc
    · omega
  exact ⟨hg.p1, hg.p5, elsK_vld hg, (srtE_mem _ _).2 (fin_id hg.p1 hg.p5 hv), fun a ha b hb => (srtE_mem _ _).2 (fin_mul hg.p1 hg.p5 hv h3 ((srtE_mem _ _).1 ha) b ((srtE_mem _ _).1 hb)), srtE_srt _, elsK_300 hc hg⟩

/-- The products of the maps of one list by those of another one. -/
def prodsC (p : Int) (A B : List Nat) : List Nat := A.flatMap fun a => B.map fun b => mulC p a b
theorem prods_mem {p : Int} {A B : List Nat} {x : Nat} : x ∈ prodsC p A B ↔ ∃ a, a ∈ A ∧ ∃ b, b ∈ B ∧ mulC p a b = x := by
  unfold prodsC
  simp only [List.mem_flatMap, List.mem_map]
/-- The same in order, each once. -/
def ordC (p : Int) (A B : List Nat) : List Nat := srtE (prodsC p A B)
def rgtC (p : Int) (K : List Nat) (f : Nat) : List Nat := srtE (K.map fun c => mulC p f c)
def lftC (p : Int) (K : List Nat) (f : Nat) : List Nat := srtE (K.map fun c => mulC p c f)
def idlC (p : Int) (K : List Nat) (f : Nat) : List Nat := srtE ((lftC p K f).flatMap fun l => rgtC p K l)

theorem rgt_mem {p : Int} {K : List Nat} {f x : Nat} : x ∈ rgtC p K f ↔ ∃ c, c ∈ K ∧ mulC p f c = x := by unfold rgtC; rw [srtE_mem, List.mem_map]
theorem lft_mem {p : Int} {K : List Nat} {f x : Nat} : x ∈ lftC p K f ↔ ∃ c, c ∈ K ∧ mulC p c f = x := by unfold lftC; rw [srtE_mem, List.mem_map]
theorem idl_mem {p : Int} {K : List Nat} {f x : Nat} : x ∈ idlC p K f ↔ ∃ u, u ∈ K ∧ ∃ v, v ∈ K ∧ mulC p (mulC p u f) v = x := by
  unfold idlC
  rw [srtE_mem, List.mem_flatMap]
  constructor
  · rintro ⟨l, hl, hx⟩
    obtain ⟨u, hu, rfl⟩ := lft_mem.1 hl
    obtain ⟨v, hv, rfl⟩ := rgt_mem.1 hx
    exact ⟨u, hu, v, hv, rfl⟩
  · rintro ⟨u, hu, v, hv, rfl⟩
    exact ⟨_, lft_mem.2 ⟨u, hu, rfl⟩, rgt_mem.2 ⟨v, hv, rfl⟩⟩
theorem ord_mem {p : Int} {A B : List Nat} {x : Nat} : x ∈ ordC p A B ↔ ∃ a, a ∈ A ∧ ∃ b, b ∈ B ∧ mulC p a b = x := by unfold ordC; rw [srtE_mem, prods_mem]

theorem ord_rgt (p : Int) (K : List Nat) (f : Nat) : ordC p [f] K = rgtC p K f := by
  refine srt_unique (srtE_srt _) (srtE_srt _) fun x => ?_
  rw [ord_mem, rgt_mem]
  simp
theorem ord_lft (p : Int) (K : List Nat) (f : Nat) : ordC p K [f] = lftC p K f := by
  refine srt_unique (srtE_srt _) (srtE_srt _) fun x => ?_
  rw [ord_mem, lft_mem]
  simp
theorem ord_idl (p : Int) (K : List Nat) (f : Nat) : ordC p (ordC p K [f]) K = idlC p K f := by
  refine srt_unique (srtE_srt _) (srtE_srt _) fun x => ?_
  rw [ord_mem, idl_mem]
  constructor
  · rintro ⟨a, ha, b, hb, rfl⟩
    rw [ord_lft] at ha
    obtain ⟨u, hu, rfl⟩ := lft_mem.1 ha
    exact ⟨u, hu, b, hb, rfl⟩
  · rintro ⟨u, hu, v, hv, rfl⟩
    exact ⟨_, by rw [ord_lft]; exact lft_mem.2 ⟨u, hu, rfl⟩, v, hv, rfl⟩

theorem Mon.prods {p : Int} {K A B : List Nat} (h : Mon p K) (hA : ∀ a ∈ A, a ∈ K) (hB : ∀ b ∈ B, b ∈ K) : ∀ x ∈ prodsC p A B, x ∈ K := fun x hx => by
  obtain ⟨a, ha, b, hb, rfl⟩ := prods_mem.1 hx
  exact h.mul a (hA a ha) b (hB b hb)
theorem Mon.ord {p : Int} {K A B : List Nat} (h : Mon p K) (hA : ∀ a ∈ A, a ∈ K) (hB : ∀ b ∈ B, b ∈ K) : ∀ x ∈ ordC p A B, x ∈ K := fun x hx => h.prods hA hB x ((srtE_mem _ _).1 hx)
theorem Mon.rgt {p : Int} {K : List Nat} {f : Nat} (h : Mon p K) (hf : f ∈ K) : ∀ x ∈ rgtC p K f, x ∈ K := fun x hx => by
  obtain ⟨c, hc, rfl⟩ := rgt_mem.1 hx
  exact h.mul f hf c hc
theorem Mon.lft {p : Int} {K : List Nat} {f : Nat} (h : Mon p K) (hf : f ∈ K) : ∀ x ∈ lftC p K f, x ∈ K := fun x hx => by
  obtain ⟨c, hc, rfl⟩ := lft_mem.1 hx
  exact h.mul c hc f hf

/-- A list in order of numbers of another one is no longer. -/
theorem srtd_nodup {K : List Nat} (h : srtd K) : K.Nodup := List.Pairwise.imp (fun {a b} (hab : a < b) => Nat.ne_of_lt hab) h
theorem nodup_le : ∀ {A K : List Nat}, A.Nodup → (∀ a ∈ A, a ∈ K) → A.length ≤ K.length
  | [], _, _, _ => by simp
  | a :: A, K, hn, h => by
    have ha := h a (by simp)
    have hn' := List.nodup_cons.1 hn
    have := nodup_le (A := A) (K := K.erase a) hn'.2 (fun b hb => (List.mem_erase_of_ne (fun e => hn'.1 (by rw [← e]; exact hb))).2 (h b (by simp [hb])))
    have hl := List.length_erase_of_mem ha
    have hp : 0 < K.length := List.length_pos_of_mem ha
    simp only [List.length_cons]
    omega
theorem Mon.len {p : Int} {K A : List Nat} (h : Mon p K) (hs : srtd A) (hA : ∀ a ∈ A, a ∈ K) : A.length ≤ 300 := Nat.le_trans (nodup_le (srtd_nodup hs) hA) h.le

/-! The least ideal. -/

/-- The rank of the map of a number. -/
def rkC (p : Int) (c : Nat) : Nat := (asc (imgB p (dcd c))).length

theorem mulC_at {p : Int} {a b : Nat} (ha : vld p a) (hb : vld p b) (i : Nat) (hi : (i : Int) < p) : dcd (mulC p a b) i = dcd b (dcd a i).toNat := by
  have h5 := (isB_pts ha.2).2
  unfold mulC
  rw [dcd_ecd (mul_ok ha.2 hb.2) i (by omega), mul_lt _ _ _ hi]

theorem img_iff {p : Int} (h1 : 1 ≤ p) {t : Nat → Int} {j : Nat} : imgB p t j = true ↔ ∃ i : Nat, (i : Int) < p ∧ t i = (j : Int) := by
  unfold imgB imgK
  rw [List.any_eq_true]
  constructor
  · rintro ⟨i, hi, h⟩
    exact ⟨i, by have := List.mem_range.1 hi; omega, by simpa using h⟩
  · rintro ⟨i, hi, h⟩
    exact ⟨i, List.mem_range.2 (by omega), by simpa using h⟩

theorem asc_same {A B : Nat → Bool} (h : ∀ j, A j = true → B j = true) (hl : (asc B).length ≤ (asc A).length) : ∀ j, j < 5 → B j = true → A j = true := fun j hj hb => by
  have e1 : ∀ C : Nat → Bool, (asc C).length = ((List.range 5).filter C).length := fun C => by unfold asc ascK; rw [List.length_map]
  rw [e1, e1] at hl
  have e2 : (List.range 5).filter A = ((List.range 5).filter B).filter A := by
    rw [List.filter_filter]
    refine List.filter_congr fun x _ => ?_
    by_cases hx : A x = true
    · rw [hx, h x hx]; rfl
    · have : A x = false := by simpa using hx
      rw [this]; rfl
  have hsub : ((List.range 5).filter A).Sublist ((List.range 5).filter B) := by rw [e2]; exact List.filter_sublist
  have he := hsub.eq_of_length_le hl
  have hm : j ∈ (List.range 5).filter B := List.mem_filter.2 ⟨List.mem_range.2 hj, hb⟩
  rw [← he] at hm
  exact (List.mem_filter.1 hm).2

/-- An idempotent map that ends in q, and behind which q loses no rank, leaves q as it is. -/
theorem rk_fix {p : Int} {q e y : Nat} (hq : vld p q) (he : vld p e) (hy : vld p y) (hid : mulC p e e = e) (hey : e = mulC p y q) (hr : rkC p q ≤ rkC p (mulC p q e)) : mulC p q e = q := by
  obtain ⟨h1, h5⟩ := isB_pts hq.2
  have hR := mulC_vld hq he
  have hsub : ∀ j, imgB p (dcd (mulC p q e)) j = true → imgB p (dcd q) j = true := fun j hj => by
    obtain ⟨i, hi, h⟩ := (img_iff h1).1 hj
    rw [mulC_at hq he i hi, hey] at h
    have b1 := ok_at hq.2 i hi
    rw [mulC_at hy hq _ (by omega)] at h
    have b2 := ok_at hy.2 (dcd q i).toNat (by omega)
    exact (img_iff h1).2 ⟨_, by omega, h⟩
  have hsame := asc_same hsub hr
  refine dcd_inj hR.1 hq.1 fun i hi => ?_
  by_cases hip : (i : Int) < p
  · have b1 := ok_at hq.2 i hip
    have hin : imgB p (dcd q) (dcd q i).toNat = true := (img_iff h1).2 ⟨i, hip, by omega⟩
    obtain ⟨k, hk, h⟩ := (img_iff h1).1 (hsame _ (by omega) hin)
    rw [mulC_at hq he i hip]
    rw [mulC_at hq he k hk] at h
    have b2 := ok_at hq.2 k hk
    have hee := mulC_at he he (dcd q k).toNat (by omega)
    rw [hid] at hee
    rw [h] at hee
    simp only [Int.toNat_natCast] at hee
    omega
  · rw [ok_past hR.2 i (by omega) hi, ok_past hq.2 i (by omega) hi]

theorem Mon.pows {p : Int} {K : List Nat} {x : Nat} (h : Mon p K) (hx : x ∈ K) : ∀ n, ecd (pow p (dcd x) n) ∈ K ∧ ecd (pow p (dcd x) (n + 1)) = mulC p (ecd (pow p (dcd x) n)) x
  | 0 => by
    have hv := h.vl x hx
    have e0 : ecd (pow p (dcd x) 0) = idC p := rfl
    refine ⟨by rw [e0]; exact h.one, ?_⟩
    rw [pow_succ]
    unfold mulC
    rw [mulC_left (pow_ok hv.2 0)]
  | n + 1 => by
    have hv := h.vl x hx
    obtain ⟨i1, i2⟩ := Mon.pows h hx n
    refine ⟨by rw [i2]; exact h.mul _ i1 _ hx, ?_⟩
    rw [pow_succ]
    unfold mulC
    rw [mulC_left (pow_ok hv.2 (n + 1))]

/-- An element with the least rank lies in the ideal of each element that lies in its ideal. -/
theorem least_in {p : Int} {K : List Nat} {q a : Nat} (h : Mon p K) (hq : q ∈ K) (ha : a ∈ K) (hmin : ∀ c ∈ K, rkC p q ≤ rkC p c) : ∃ u, u ∈ K ∧ ∃ v, v ∈ K ∧ q = mulC p (mulC p u a) v := by
  have hx := h.mul a ha q hq
  have hxv := h.vl _ hx
  obtain ⟨m59, e60⟩ := h.pows hx 59
  obtain ⟨m60, _⟩ := h.pows hx 60
  have hid := idem_60 hxv.2
  unfold idemB at hid
  generalize hxc : mulC p a q = x at *
  have hid2 : mulC p (ecd (pow p (dcd x) 60)) (ecd (pow p (dcd x) 60)) = ecd (pow p (dcd x) 60) := by
    have hok := pow_ok hxv.2 60
    have hsame := (eqB_at hid).2
    unfold mulC
    rw [mulC_left hok]
    unfold mulC at *
    refine Eq.trans ?_ (ecd_congr hsame)
    refine ecd_congr fun i hi => ?_
    have := congrFun (mul_congr (p := p) hok (fun _ _ => rfl) (fun i hi => dcd_ecd hok i hi) (g := dcd (ecd (pow p (dcd x) 60))) (g' := pow p (dcd x) 60)) i
    exact this
  have v59 := h.vl _ m59
  have v60 := h.vl _ m60
  have hqv := h.vl _ hq
  have hav := h.vl _ ha
  have hfix : mulC p q (ecd (pow p (dcd x) 60)) = q := by
    refine rk_fix hqv v60 (mulC_vld v59 hav) hid2 ?_ (hmin _ (h.mul _ hq _ m60))
    exact e60.trans (by rw [mulC_assoc v59 hav hqv, hxc])
  refine ⟨_, h.mul _ hq _ m59, q, hq, ?_⟩
  rw [mulC_assoc hqv v59 hav, mulC_assoc hqv (mulC_vld v59 hav) hqv, mulC_assoc v59 hav hqv, hxc, ← e60, hfix]

theorem idl_least {p : Int} {K : List Nat} {q P : Nat} (h : Mon p K) (hq : q ∈ K) (hP : P ∈ K) (hmin : ∀ c ∈ K, rkC p q ≤ rkC p c) (hf : ∃ a, a ∈ K ∧ ∃ b, b ∈ K ∧ P = mulC p (mulC p a q) b) : idlC p K P = idlC p K q := by
  obtain ⟨u, hu, v, hv, e⟩ := least_in h hq hP hmin
  obtain ⟨a, ha, b, hb, e2⟩ := hf
  have hqv := h.vl _ hq
  have hPv := h.vl _ hP
  refine srt_unique (srtE_srt _) (srtE_srt _) fun x => ?_
  rw [idl_mem, idl_mem]
  have mid : ∀ {s t y z X Y : Nat}, s ∈ K → t ∈ K → y ∈ K → z ∈ K → X ∈ K → Y = mulC p (mulC p y X) z → mulC p (mulC p s Y) t = mulC p (mulC p (mulC p s y) X) (mulC p z t) := fun {s t y z X Y} hs ht hy hz hX e => by
    have vs := h.vl _ hs; have vt := h.vl _ ht; have vy := h.vl _ hy; have vz := h.vl _ hz; have vX := h.vl _ hX
    rw [e, ← mulC_assoc vs (mulC_vld vy vX) vz, ← mulC_assoc vs vy vX, mulC_assoc (mulC_vld (mulC_vld vs vy) vX) vz vt]
  constructor
  · rintro ⟨s, hs, t, ht, rfl⟩
    exact ⟨_, h.mul _ hs _ ha, _, h.mul _ hb _ ht, (mid hs ht ha hb hq e2).symm⟩
  · rintro ⟨s, hs, t, ht, rfl⟩
    exact ⟨_, h.mul _ hs _ hu, _, h.mul _ hv _ ht, (mid hs ht hu hv hP e).symm⟩

/-- The product of all elements. -/
def allC (p : Int) (F : List Nat) : Nat := F.foldl (mulC p) (idC p)

theorem fold_in {p : Int} {K : List Nat} (h : Mon p K) : ∀ (F : List Nat) (s : Nat), (∀ c ∈ F, c ∈ K) → s ∈ K → F.foldl (mulC p) s ∈ K ∧ F.foldl (mulC p) s = mulC p s (F.foldl (mulC p) (idC p))
  | [], s, _, hs => ⟨hs, (mulC_idr h.p1 h.p5 (h.vl s hs)).symm⟩
  | c :: F, s, hF, hs => by
    have hc := hF c (by simp)
    have hF' : ∀ c ∈ F, c ∈ K := fun x hx => hF x (by simp [hx])
    obtain ⟨i1, i2⟩ := fold_in h F (mulC p s c) hF' (h.mul _ hs _ hc)
    obtain ⟨j1, j2⟩ := fold_in h F c hF' hc
    have k := (fold_in h F (idC p) hF' h.one).1
    refine ⟨by simpa only [List.foldl_cons] using i1, ?_⟩
    simp only [List.foldl_cons]
    rw [i2, mulC_idl h.p1 h.p5 (h.vl c hc), j2, mulC_assoc (h.vl s hs) (h.vl c hc) (h.vl _ k)]

theorem all_in {p : Int} {K : List Nat} (h : Mon p K) : allC p K ∈ K := (fold_in h K _ (fun _ hc => hc) h.one).1

theorem all_fac {p : Int} {K : List Nat} (h : Mon p K) {q : Nat} (hq : q ∈ K) : ∃ a, a ∈ K ∧ ∃ b, b ∈ K ∧ allC p K = mulC p (mulC p a q) b := by
  obtain ⟨A, B, e⟩ := List.append_of_mem hq
  have hA : ∀ c ∈ A, c ∈ K := fun c hc => by rw [e]; simp [hc]
  have hB : ∀ c ∈ B, c ∈ K := fun c hc => by rw [e]; simp [hc]
  have a1 := (fold_in h A _ hA h.one).1
  have b1 := (fold_in h B _ hB h.one).1
  refine ⟨_, a1, _, b1, ?_⟩
  have e3 : allC p K = (A ++ q :: B).foldl (mulC p) (idC p) := by unfold allC; rw [← e]
  rw [e3, List.foldl_append, List.foldl_cons]
  rw [(fold_in h B _ hB (h.mul _ a1 _ hq)).2]

/-! Inverses. -/

def bckC (p : Int) (f g : Nat) : Bool := decide (mulC p (mulC p f g) f = f)
def invT (p : Int) (f g : Nat) : Bool := bckC p f g && bckC p g f
/-- The inverses of an element. -/
def invC (p : Int) (K : List Nat) (f : Nat) : List Nat := K.filter (invT p f)
def regC (p : Int) (K : List Nat) (f : Nat) : Bool := K.any (bckC p f)

theorem reg_inv {p : Int} {K : List Nat} {f : Nat} (h : Mon p K) (hf : f ∈ K) : regC p K f = decide (0 < (invC p K f).length) := by
  rw [Bool.eq_iff_iff, decide_eq_true_iff]
  unfold regC
  rw [List.any_eq_true]
  constructor
  · rintro ⟨g, hg, hb⟩
    have hb : mulC p (mulC p f g) f = f := of_decide_eq_true hb
    have vf := h.vl _ hf; have vg := h.vl _ hg
    have m : mulC p (mulC p g f) g ∈ K := h.mul _ (h.mul _ hg _ hf) _ hg
    have e1 : mulC p f (mulC p (mulC p g f) g) = mulC p f g := by
      rw [← mulC_assoc vf (mulC_vld vg vf) vg, ← mulC_assoc vf vg vf, hb]
    have e2 : mulC p (mulC p (mulC p g f) g) f = mulC p g f := by
      rw [mulC_assoc (mulC_vld vg vf) vg vf, mulC_assoc vg vf (mulC_vld vg vf), ← mulC_assoc vf vg vf, hb]
    refine List.length_pos_of_mem (List.mem_filter.2 ⟨m, ?_⟩)
    unfold invT bckC
    rw [Bool.and_eq_true, decide_eq_true_iff, decide_eq_true_iff]
    refine ⟨by rw [e1, hb], ?_⟩
    rw [e2, ← mulC_assoc (mulC_vld vg vf) (mulC_vld vg vf) vg, mulC_assoc vg vf (mulC_vld vg vf), ← mulC_assoc vf vg vf, hb]
  · intro hl
    obtain ⟨g, hg⟩ := List.exists_mem_of_length_pos hl
    obtain ⟨hg1, hg2⟩ := List.mem_filter.1 hg
    unfold invT at hg2
    rw [Bool.and_eq_true] at hg2
    exact ⟨g, hg1, hg2.1⟩

/-! What lies below. -/

def idmC (p : Int) (K : List Nat) : List Nat := K.filter fun c => idemB p (dcd c)
def blwC (p : Int) (K : List Nat) (g f : Nat) : Bool := ((idmC p K).any fun e => decide (mulC p e g = f)) && ((idmC p K).any fun e => decide (mulC p g e = f))
/-- The elements that are below an element, as the program finds them. -/
def blwL (p : Int) (K : List Nat) (g : Nat) : List Nat := (ordC p (idmC p K) [g]).filter fun f => decide (f ∈ ordC p [g] (idmC p K))

theorem blw_iff {p : Int} {K : List Nat} {g f : Nat} : f ∈ blwL p K g ↔ blwC p K g f = true := by
  unfold blwL blwC
  rw [List.mem_filter, decide_eq_true_iff, ord_mem, ord_mem, Bool.and_eq_true, List.any_eq_true, List.any_eq_true]
  simp only [List.mem_singleton, decide_eq_true_iff]
  constructor
  · rintro ⟨⟨a, ha, b, rfl, h1⟩, a2, rfl, b2, hb2, h2⟩
    exact ⟨⟨a, ha, h1⟩, b2, hb2, h2⟩
  · rintro ⟨⟨a, ha, h1⟩, b2, hb2, h2⟩
    exact ⟨⟨a, ha, g, rfl, h1⟩, g, rfl, b2, hb2, h2⟩

theorem blw_eq {p : Int} {K : List Nat} {g : Nat} (h : Mon p K) (hg : g ∈ K) : blwL p K g = K.filter (blwC p K g) := by
  refine srt_unique (List.Pairwise.sublist List.filter_sublist (srtE_srt _)) (List.Pairwise.sublist List.filter_sublist h.srt) fun x => ?_
  rw [blw_iff, List.mem_filter]
  refine ⟨fun hx => ⟨?_, hx⟩, fun hx => hx.2⟩
  have hx2 := blw_iff.2 hx
  unfold blwL at hx2
  exact h.ord (fun a ha => (List.mem_filter.1 ha).1) (fun b hb => by rw [List.mem_singleton.1 hb]; exact hg) x (List.mem_filter.1 hx2).1

end Go.Proofs.Ytiogagaclhjdaaa
