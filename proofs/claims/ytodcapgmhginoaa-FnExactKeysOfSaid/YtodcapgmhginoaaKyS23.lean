/- The keys that one comes by are the keys in order. -/
import Derived.Test.YtodcapgmhginoaaKyS0
import Derived.Test.YtodcapgmhginoaaKyS14
import Derived.Test.YtodcapgmhginoaaKyS5
import Derived.Test.YtodcapgmhginoaaKyS7
import Derived.Test.YtodcapgmhginoaaKyS22
namespace Go.Proofs.Ytodcapgmhginoaa
open Go.RowKit

theorem keysOf_evs : ∀ n (a : ATr), a.weight ≤ n → keysOf a.evs = a.tr.keys := by
  intro n
  induction n with
  | zero =>
    intro a ha
    have hc : a.cs.length = 0 := by have := ATr.ks_le a; omega
    have hk0 : a.ks.length = 0 := by have := ATr.ks_le a; omega
    rw [evs_eq, remS_end (by omega)]
    cases a with
    | mk nb no k cs =>
      have e1 : cs = [] := List.length_eq_zero_iff.1 hc
      have e2 : k = [] := List.length_eq_zero_iff.1 hk0
      subst e1 e2; rfl
  | succ n ih =>
    intro a ha
    have hlen : (Tr.keyss (ATr.trs a.cs)).length = a.cs.length := by rw [Tr.length_keyss, ATr.trs_length]
    have hkid : ∀ i, keysOf (hev a (ATr.evss a.cs) (2 * i)) = ((Tr.keyss (ATr.trs a.cs))[i]?).getD [] := fun i => by
      by_cases hk : i < a.cs.length
      · rw [hev_kid hk, ih a.cs[i] (by have := ATr.weight_kid hk; omega), Tr.keyss_get _ i (by rw [ATr.trs_length]; exact hk), ATr.trs_get a.cs i hk]; rfl
      · rw [hev_nokid hk, List.getElem?_eq_none (by omega)]; rfl
    have hkey : ∀ i, keysOf (hev a (ATr.evss a.cs) (2 * i + 1)) = (a.ks[i]?).toList := fun i => by
      by_cases hk : i < a.ks.length
      · rw [hev_key hk]; simp [keysOf, hk, List.getD_eq_getElem?_getD]
      · rw [hev_nokey hk, List.getElem?_eq_none (by omega)]; rfl
    have hrem : ∀ m i, max a.cs.length a.ks.length - i = m → keysOf (remS (a, 2 * i)) = (List.range' i m).flatMap (Tr.part (Tr.keyss (ATr.trs a.cs)) a.ks) := by
      intro m
      induction m with
      | zero => intro i hi; rw [remS_end (by omega)]; rfl
      | succ m ihm =>
        intro i hi
        rw [remS_step (by omega), remS_step (p := 2 * i + 1) (by omega), show 2 * i + 1 + 1 = 2 * (i + 1) by omega, keysOf_append, keysOf_append, hkid, hkey, ihm (i + 1) (by omega), List.range'_succ, List.flatMap_cons, Tr.part, List.append_assoc]
    rw [evs_eq]
    show keysOf (remS (a, 2 * 0)) = _
    rw [hrem _ 0 rfl]
    cases a with
    | mk nb no k cs =>
      simp only [ATr.tr, Tr.keys, Tr.upto, ATr.cs, ATr.ks, Nat.sub_zero]
      rw [List.range_eq_range', ATr.trs_length, Nat.max_comm]
end Go.Proofs.Ytodcapgmhginoaa
