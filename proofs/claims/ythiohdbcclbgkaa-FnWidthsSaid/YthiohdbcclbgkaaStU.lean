/- The keys that one comes by are the keys in order. -/
import Derived.Test.YthiohdbcclbgkaaProg
import Derived.Test.YthiohdbcclbgkaaBase
import Derived.Test.YthiohdbcclbgkaaTo
import Derived.Test.YthiohdbcclbgkaaNode
import Derived.Test.YthiohdbcclbgkaaAt
import Derived.Test.YthiohdbcclbgkaaStepData
import Derived.Test.YthiohdbcclbgkaaIter
import Derived.Test.YthiohdbcclbgkaaSteps
import Derived.Test.YthiohdbcclbgkaaKeys

/- What the loops over steps need: a step's cells; how many steps of a kind a tree has. -/
namespace Go.Proofs.Ythiohdbcclbgkaa
open Go.RowKit

def Step.node : Step → ATr
  | .beg a => a
  | .key a _ => a
  | .fin a => a
def Step.what : Step → Int
  | .beg _ => 0
  | .key _ _ => 1
  | .fin _ => 2
def Step.kk : Step → Int
  | .beg _ => 0
  | .key _ k => k
  | .fin _ => 0
theorem Step.enc_eq (x : Step) : x.enc = #[.agg #[.pointer (some x.node.addr), .int .i64 x.what, .int .i64 x.kk]] := by cases x <;> rfl

/-- A property of lists of steps that adds up, said of a whole tree. -/
theorem evs_sum (f : List Step → Nat) (h0 : f [] = 0) (happ : ∀ a b, f (a ++ b) = f a + f b) (hk : ∀ a k, f [.key a k] = 0) (he : ∀ a, f [.fin a] = 0) (F : Tr → Nat) (Fs : List Tr → Nat)
    (hFs0 : Fs [] = 0) (hFs : ∀ t r, Fs (t :: r) = F t + Fs r) (hF : ∀ a : ATr, F a.tr = f [.beg a] + Fs (ATr.trs a.cs)) :
    ∀ n (a : ATr), a.weight ≤ n → f a.evs = F a.tr := by
  intro n
  induction n with
  | zero =>
    intro a ha
    have hc : a.cs.length = 0 := by have := ATr.ks_le a; omega
    have hk0 : a.ks.length = 0 := by have := ATr.ks_le a; omega
    rw [evs_eq, remS_end (by omega), hF, List.length_eq_zero_iff.1 hc]
    have : f [.beg a, .fin a] = f [.beg a] + f [.fin a] := happ [.beg a] [.fin a]
    rw [this, he, ATr.trs, hFs0]
  | succ n ih =>
    intro a ha
    -- the steps from place p on
    have hrem : ∀ m p, 2 * max a.cs.length a.ks.length - p = m → f (remS (a, p)) = Fs (ATr.trs (a.cs.drop ((p + 1) / 2))) := by
      intro m
      induction m with
      | zero =>
        intro p hp
        rw [remS_end (by omega), he, List.drop_eq_nil_of_le (by omega), ATr.trs, hFs0]
      | succ m ihm =>
        intro p hp
        rw [remS_step (by omega), happ, ihm (p + 1) (by omega)]
        obtain ⟨i, hi⟩ : ∃ i, p = 2 * i ∨ p = 2 * i + 1 := ⟨p / 2, by omega⟩
        rcases hi with hi | hi
        · subst hi
          rw [show (2 * i + 1 + 1) / 2 = i + 1 by omega, show (2 * i + 1) / 2 = i by omega]
          by_cases hk1 : i < a.cs.length
          · rw [hev_kid hk1, ih a.cs[i] (by have := ATr.weight_kid hk1; omega), List.drop_eq_getElem_cons hk1, ATr.trs, hFs]
          · rw [hev_nokid hk1, h0, List.drop_eq_nil_of_le (by omega), List.drop_eq_nil_of_le (by omega), ATr.trs, hFs0]
        · subst hi
          rw [show (2 * i + 1 + 1 + 1) / 2 = i + 1 by omega, show (2 * i + 1 + 1) / 2 = i + 1 by omega]
          by_cases hk1 : i < a.ks.length
          · rw [hev_key hk1, hk]; omega
          · rw [hev_nokey hk1, h0]; omega
    rw [evs_eq, hF]
    have : f (.beg a :: remS (a, 0)) = f [.beg a] + f (remS (a, 0)) := happ [.beg a] (remS (a, 0))
    rw [this, hrem _ 0 rfl]
    simp

/-- How many nodes begin. -/
def begs : List Step → Nat
  | [] => 0
  | .beg _ :: r => begs r + 1
  | .key _ _ :: r => begs r
  | .fin _ :: r => begs r
theorem begs_append (a b : List Step) : begs (a ++ b) = begs a + begs b := by
  induction a with
  | nil => simp [begs]
  | cons x r ih => cases x <;> simp [begs, ih] <;> omega
theorem begs_evs (a : ATr) : begs a.evs = a.tr.count := by
  refine evs_sum begs rfl begs_append (fun _ _ => rfl) (fun _ => rfl) Tr.count Tr.counts rfl (fun _ _ => rfl) (fun a => ?_) a.weight a (Nat.le_refl _)
  cases a; simp [ATr.tr, Tr.count, begs, ATr.cs]

/-- How many nodes with just so many keys begin. -/
def fullBegs (n : Int) : List Step → Nat
  | [] => 0
  | .beg a :: r => fullBegs n r + (if (a.ks.length : Int) = n then 1 else 0)
  | .key _ _ :: r => fullBegs n r
  | .fin _ :: r => fullBegs n r
theorem fullBegs_append (n : Int) (a b : List Step) : fullBegs n (a ++ b) = fullBegs n a + fullBegs n b := by
  induction a with
  | nil => simp [fullBegs]
  | cons x r ih => cases x <;> simp [fullBegs, ih] <;> omega
theorem fullBegs_evs (n : Int) (a : ATr) : fullBegs n a.evs = a.tr.full n := by
  refine evs_sum (fullBegs n) rfl (fullBegs_append n) (fun _ _ => rfl) (fun _ => rfl) (Tr.full n) (Tr.fulls n) rfl (fun _ _ => rfl) (fun a => ?_) a.weight a (Nat.le_refl _)
  cases a with
  | mk nb no k c =>
    show (if (k.length : Int) = n then 1 else 0) + Tr.fulls n (ATr.trs c) = (0 + (if (k.length : Int) = n then 1 else 0)) + Tr.fulls n (ATr.trs c)
    rw [Nat.zero_add]

/-- The keys among the steps. -/
def keysOf : List Step → List Int
  | [] => []
  | .beg _ :: r => keysOf r
  | .key _ k :: r => k :: keysOf r
  | .fin _ :: r => keysOf r
theorem keysOf_append (a b : List Step) : keysOf (a ++ b) = keysOf a ++ keysOf b := by
  induction a with
  | nil => rfl
  | cons x r ih => cases x <;> simp [keysOf, ih]
end Go.Proofs.Ythiohdbcclbgkaa

/- More on the steps of a tree: the nodes that one comes by; how deep one is. -/
namespace Go.Proofs.Ythiohdbcclbgkaa
open Go.RowKit

theorem mem_rem {a : ATr} {p : Nat} {x : Step} (h : x ∈ remS (a, p)) : x.node = a ∨ ∃ i, ∃ hi : i < a.cs.length, x ∈ a.cs[i].evs := by
  unfold remS remOf at h
  rcases List.mem_append.1 h with h | h
  · obtain ⟨q, _, hq⟩ := List.mem_flatMap.1 h
    have hq : x ∈ hev a (ATr.evss a.cs) q := hq
    obtain ⟨i, hi | hi⟩ : ∃ i, q = 2 * i ∨ q = 2 * i + 1 := ⟨q / 2, by omega⟩
    · subst hi
      by_cases hk : i < a.cs.length
      · rw [hev_kid hk] at hq; exact .inr ⟨i, hk, hq⟩
      · rw [hev_nokid hk] at hq; simp at hq
    · subst hi
      by_cases hk : i < a.ks.length
      · rw [hev_key hk] at hq
        left
        rw [List.mem_singleton.1 hq]; rfl
      · rw [hev_nokey hk] at hq; simp at hq
  · left; rw [List.mem_singleton.1 h]; rfl

/-- What holds of a tree and goes down to the kids holds of all nodes that one comes by. -/
theorem evs_all (P : ATr → Prop) (hkid : ∀ a, P a → ∀ i (h : i < a.cs.length), P a.cs[i]) : ∀ n (a : ATr), a.weight ≤ n → P a → ∀ x ∈ a.evs, P x.node := by
  intro n
  induction n with
  | zero =>
    intro a ha hP x hx
    rw [evs_eq] at hx
    rcases List.mem_cons.1 hx with rfl | hx
    · exact hP
    · rcases mem_rem hx with h | ⟨i, hi, _⟩
      · rw [h]; exact hP
      · have := ATr.ks_le a; omega
  | succ n ih =>
    intro a ha hP x hx
    rw [evs_eq] at hx
    rcases List.mem_cons.1 hx with rfl | hx
    · exact hP
    · rcases mem_rem hx with h | ⟨i, hi, h⟩
      · rw [h]; exact hP
      · exact ih a.cs[i] (by have := ATr.weight_kid hi; omega) (hkid a hP i hi) x h

theorem evs_at {w : World} {a : ATr} (h : AT w a) {x : Step} (hx : x ∈ a.evs) : AT w x.node :=
  evs_all (AT w) (fun a h i hi => by obtain ⟨_, _, _, _, _, _, _, _, _, _, _, _, _, h, _⟩ := h.parts; exact h i hi) a.weight a (Nat.le_refl _) h x hx

/-- How many nodes end. -/
def fins : List Step → Nat
  | [] => 0
  | .fin _ :: r => fins r + 1
  | .key _ _ :: r => fins r
  | .beg _ :: r => fins r
theorem fins_append (a b : List Step) : fins (a ++ b) = fins a + fins b := by
  induction a with
  | nil => simp [fins]
  | cons x r ih => cases x <;> simp [fins, ih] <;> omega

/-- How deep one is, and how deep one has been. -/
def dep : Int × Int → List Step → Int × Int
  | s, [] => s
  | s, .beg _ :: r => dep (s.1 + 1, max s.2 (s.1 + 1)) r
  | s, .key _ _ :: r => dep s r
  | s, .fin _ :: r => dep (s.1 - 1, s.2) r
theorem dep_append (a b : List Step) : ∀ s, dep s (a ++ b) = dep (dep s a) b := by
  induction a with
  | nil => intro s; rfl
  | cons x r ih => intro s; cases x <;> exact ih _

theorem dep_bounds (l : List Step) : ∀ s : Int × Int, s.1 - fins l ≤ (dep s l).1 ∧ (dep s l).1 ≤ s.1 + begs l ∧ s.2 ≤ (dep s l).2 ∧ (dep s l).2 ≤ max s.2 (s.1 + begs l) := by
  induction l with
  | nil => intro s; simp [dep, fins, begs]; omega
  | cons x r ih =>
    intro s
    cases x with
    | beg a => have h := ih (s.1 + 1, max s.2 (s.1 + 1)); simp only [dep, fins, begs]; simp only at h; omega
    | key a k => have h := ih s; simp only [dep, fins, begs]; omega
    | fin a => have h := ih (s.1 - 1, s.2); simp only [dep, fins, begs]; simp only at h; omega

theorem dep_evs : ∀ n (a : ATr), a.weight ≤ n → ∀ (c d : Int), dep (c, d) a.evs = (c, max d (c + a.tr.depth)) := by
  intro n
  induction n with
  | zero =>
    intro a ha c d
    have hc : a.cs.length = 0 := by have := ATr.ks_le a; omega
    have hk0 : a.ks.length = 0 := by have := ATr.ks_le a; omega
    rw [evs_eq, remS_end (by omega)]
    have hd : a.tr.depth = 1 := by
      cases a with
      | mk nb no k cs =>
        have : cs = [] := List.length_eq_zero_iff.1 hc
        subst this; simp [ATr.tr, ATr.trs, Tr.depth, Tr.depths]
    rw [hd]
    simp only [dep, Prod.mk.injEq]
    omega
  | succ n ih =>
    intro a ha c d
    have hrem : ∀ m p (d : Int), 2 * max a.cs.length a.ks.length - p = m → c + 1 ≤ d → dep (c + 1, d) (remS (a, p)) = (c, max d (c + 1 + Tr.depths (ATr.trs (a.cs.drop ((p + 1) / 2))))) := by
      intro m
      induction m with
      | zero =>
        intro p d hp hd
        rw [remS_end (by omega), List.drop_eq_nil_of_le (by omega)]
        simp only [dep, ATr.trs, Tr.depths, Prod.mk.injEq]
        omega
      | succ m ihm =>
        intro p d hp hd
        rw [remS_step (by omega), dep_append]
        obtain ⟨i, hi | hi⟩ : ∃ i, p = 2 * i ∨ p = 2 * i + 1 := ⟨p / 2, by omega⟩
        · subst hi
          by_cases hk1 : i < a.cs.length
          · rw [hev_kid hk1, ih a.cs[i] (by have := ATr.weight_kid hk1; omega), ihm _ _ (by omega) (by omega), show (2 * i + 1 + 1) / 2 = i + 1 by omega, show (2 * i + 1) / 2 = i by omega, List.drop_eq_getElem_cons hk1]
            have hm : ((max (a.cs[i].tr.depth) (Tr.depths (ATr.trs (a.cs.drop (i + 1)))) : Nat) : Int) = max (a.cs[i].tr.depth : Int) (Tr.depths (ATr.trs (a.cs.drop (i + 1))) : Int) := by omega
            simp only [ATr.trs, Tr.depths, Prod.mk.injEq, true_and, hm]
            generalize (a.cs[i].tr.depth : Int) = x
            generalize (Tr.depths (ATr.trs (a.cs.drop (i + 1))) : Int) = y
            omega
          · rw [hev_nokid hk1]
            show dep (c + 1, d) (remS (a, 2 * i + 1)) = _
            rw [ihm _ _ (by omega) hd, List.drop_eq_nil_of_le (by omega), List.drop_eq_nil_of_le (by omega)]
        · subst hi
          have hh : dep (c + 1, d) (hev a (ATr.evss a.cs) (2 * i + 1)) = (c + 1, d) := by
            by_cases hk1 : i < a.ks.length
            · rw [hev_key hk1]; rfl
            · rw [hev_nokey hk1]; rfl
          rw [hh, ihm _ _ (by omega) hd, show (2 * i + 1 + 1 + 1) / 2 = i + 1 by omega, show (2 * i + 1 + 1) / 2 = i + 1 by omega]
    rw [evs_eq]
    show dep (c + 1, max d (c + 1)) (remS (a, 0)) = _
    rw [hrem _ 0 _ rfl (by omega)]
    have hd : (a.tr.depth : Int) = (Tr.depths (ATr.trs a.cs) : Int) + 1 := by cases a; simp [ATr.tr, Tr.depth, ATr.cs]
    simp only [List.drop_zero, Nat.zero_add, show (1 : Nat) / 2 = 0 by omega, Prod.mk.injEq, true_and]
    omega

theorem fins_evs (a : ATr) : (fins a.evs : Int) = begs a.evs := by
  -- from the depth: one ends where one began
  have h1 : ∀ (l : List Step) (s : Int × Int), (dep s l).1 = s.1 + begs l - fins l := by
    intro l
    induction l with
    | nil => intro s; simp [dep, begs, fins]
    | cons x r ih => intro s; cases x <;> simp only [dep, begs, fins, ih] <;> omega
  have h2 := h1 a.evs (0, 0)
  rw [dep_evs a.weight a (Nat.le_refl _)] at h2
  simp only at h2
  omega
end Go.Proofs.Ythiohdbcclbgkaa

/- The keys that one comes by are the keys in order. -/
namespace Go.Proofs.Ythiohdbcclbgkaa
open Go.RowKit

theorem keysOf_evs : ∀ n (a : ATr), a.weight ≤ n → keysOf a.evs = a.tr.keys := by
  intro n
  induction n with
  | zero =>
    intro a ha
    have hc : a.cs.length = 0 := by have := ATr.ks_le a; omega
    have hk0 : a.ks.length = 0 := by have := ATr.ks_le a; omega
    rw [evs_eq, remS_end (by omega)]
    cases a with
    | mk nb no k cs =>
      have e1 : cs = [] := List.length_eq_zero_iff.1 hc
      have e2 : k = [] := List.length_eq_zero_iff.1 hk0
      subst e1 e2; rfl
  | succ n ih =>
    intro a ha
    have hlen : (Tr.keyss (ATr.trs a.cs)).length = a.cs.length := by rw [Tr.length_keyss, ATr.trs_length]
    have hkid : ∀ i, keysOf (hev a (ATr.evss a.cs) (2 * i)) = ((Tr.keyss (ATr.trs a.cs))[i]?).getD [] := fun i => by
      by_cases hk : i < a.cs.length
      · rw [hev_kid hk, ih a.cs[i] (by have := ATr.weight_kid hk; omega), Tr.keyss_get _ i (by rw [ATr.trs_length]; exact hk), ATr.trs_get a.cs i hk]; rfl
      · rw [hev_nokid hk, List.getElem?_eq_none (by omega)]; rfl
    have hkey : ∀ i, keysOf (hev a (ATr.evss a.cs) (2 * i + 1)) = (a.ks[i]?).toList := fun i => by
      by_cases hk : i < a.ks.length
      · rw [hev_key hk]; simp [keysOf, hk, List.getD_eq_getElem?_getD]
      · rw [hev_nokey hk, List.getElem?_eq_none (by omega)]; rfl
    have hrem : ∀ m i, max a.cs.length a.ks.length - i = m → keysOf (remS (a, 2 * i)) = (List.range' i m).flatMap (Tr.part (Tr.keyss (ATr.trs a.cs)) a.ks) := by
      intro m
      induction m with
      | zero => intro i hi; rw [remS_end (by omega)]; rfl
      | succ m ihm =>
        intro i hi
        rw [remS_step (by omega), remS_step (p := 2 * i + 1) (by omega), show 2 * i + 1 + 1 = 2 * (i + 1) by omega, keysOf_append, keysOf_append, hkid, hkey, ihm (i + 1) (by omega), List.range'_succ, List.flatMap_cons, Tr.part, List.append_assoc]
    rw [evs_eq]
    show keysOf (remS (a, 2 * 0)) = _
    rw [hrem _ 0 rfl]
    cases a with
    | mk nb no k cs =>
      simp only [ATr.tr, Tr.keys, Tr.upto, ATr.cs, ATr.ks, Nat.sub_zero]
      rw [List.range_eq_range', ATr.trs_length, Nat.max_comm]
end Go.Proofs.Ythiohdbcclbgkaa
