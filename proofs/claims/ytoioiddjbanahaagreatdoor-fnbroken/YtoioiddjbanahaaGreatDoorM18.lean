/-  -/
import Derived.Test.YtoioiddjbanahaaGreatDoorM17
import Derived.Test.YtoioiddjbanahaaGreatDoorM10
import Derived.Test.YtoioiddjbanahaaGreatDoorM9
import Derived.Test.YtoioiddjbanahaaGreatDoorM14
import Derived.OwnWalk
set_option linter.unusedVariables false
set_option linter.unusedSimpArgs false
namespace Go.Proofs.YtoioiddjbanahaaGreatDoor

open Go.RowKit

set_option maxHeartbeats 2000000 in
theorem c_spec_l12Id (s : ByteArray) (w : World) (hs : s.size <= 1048576) :
  Calls Tryz.prog 37 #[.string s] w fun e w' => e = .returned (.bool (idOk s)) /\ Below w.heap.size w w' := by
 have C := hid (fun wx => c_spec_l1Of idLS 12 s wx hs (by decide) (by decide))
 have E := empty_is s
 unfold idOk
 generalize ofB idLS 12 s = V at *
 cases q : decide (s.size = 0) with
 | true =>
  rw [q] at E
  clear q hs
  go_enter Tryz.func37, Tryz.ntmps37
  go_wp2_with fail
  go_ret
  exact ⟨rfl, Below.refl _ _⟩
 | false =>
  rw [q] at E
  clear q hs
  go_enter Tryz.func37, Tryz.ntmps37
  go_wp2_with fail
  refine (C.out _).mono ?_
  rintro e w1 ⟨rfl, hb1⟩
  have HB1 := hid hb1
  clear hb1 C
  go_wp2_with fail
  go_ret
  exact ⟨rfl, HB1.out⟩

theorem ats_row {w : World} {a : Option Addr} {ts : List Tk} (h : TkRow w a ts) {k : Nat} (hk : k < ts.length) : ∃ b o aa ca, a = some ⟨b, o, none⟩ /\ w.cell? ⟨b, o + k * 4 + 2, none⟩ = some (.slice aa ts[k].attrs.length ca) /\ AtRow w aa ts[k].attrs := by
 obtain ⟨b, o, aa, ca, e, hb, q0, q1, q2, q3, q4⟩ := h k hk
 exact ⟨b, o, aa, ca, e, q2, q4⟩

theorem valF_mem {l : List At} {name v : ByteArray} (h : valF l name = some v) : ∃ x ∈ l, x.value = v := by
 unfold valF at h
 rw [Option.map_eq_some_iff] at h
 obtain ⟨x, hx, e⟩ := h
 exact ⟨x, List.mem_of_find?_eq_some hx, e⟩

theorem cIdAtS {w : World} {a : Option Addr} {ts : List Tk} (hR : TkRow w a ts) (hn : ts.length <= 1048576) (hz : TksSz 1048576 ts) {k : Nat} (hk : k < ts.length) :
  ∃ b o aa na ca, a = some ⟨b, o, none⟩ /\ w.cell? ⟨b, o + k * 4 + 2, none⟩ = some (.slice aa na ca) /\ (Calls Tryz.prog 36 #[.slice aa na ca, .string idS] w fun e w' => e = .returned (.tuple #[.string ((idAt ts k).getD ByteArray.empty), .bool (idAt ts k).isSome]) /\ w' = w) := by
 obtain ⟨b, o, aa, ca, e, c2, hA⟩ := ats_row hR hk
 have h3 := hz _ (List.getElem_mem hk)
 rw [idAt_at hk]
 exact ⟨b, o, aa, _, ca, e, c2, cValueInS aa ca ts[k].attrs idS w hA h3.2.2.1 h3.2.1 (by decide)⟩

theorem idAt_sz {ts : List Tk} (hz : TksSz 1048576 ts) {k : Nat} {v : ByteArray} (hk : k < ts.length) (h : idAt ts k = some v) : v.size <= 1048576 := by
 rw [idAt_at hk] at h
 obtain ⟨x, hx, rfl⟩ := valF_mem h
 exact ((hz _ (List.getElem_mem hk)).2.2.1 _ hx).2

set_option maxRecDepth 4000 in
set_option maxHeartbeats 8000000 in
theorem cIdsOkS (a : Option Addr) (cap : Nat) (ts : List Tk) (w : World) (hR : TkRow w a ts) (hn : ts.length <= 1048576) (hz : TksSz 1048576 ts) :
  Calls Tryz.prog 12 #[.slice a ts.length cap] w fun e w' => e = .returned (.bool (idsB ts)) /\ Below w.heap.size w w' := by
 obtain ⟨i0, hi, hz0, hz1, hz2⟩ := info_parts info9
 have HI := hid (And.intro hi (And.intro hz0 (And.intro hz1 hz2)))
 clear hi hz0 hz1 hz2
 have CT := hid (fun wx (hb : Below w.heap.size w wx) => cTreeOkS a cap ts wx (hR.below hb) hn hz)
 obtain ⟨V, hV⟩ : ∃ V, idsB ts = V := ⟨_, rfl⟩
 have HF : Hid (¬ IdsP ts ts.length -> V = false) := fun h => by rw [<- hV]; exact idsB_f h
 have HT : Hid (IdsP ts ts.length -> V = treeB ts) := fun h => by rw [<- hV]; exact idsB_is h
 have CA := hid (fun (k : Nat) (hk : k < ts.length) wx (hb : Below w.heap.size w wx) => cIdAtS (hR.below hb) hn hz hk)
 have CZ := hid (fun (k : Nat) (v : ByteArray) (hk : k < ts.length) (h : idAt ts k = some v) => idAt_sz hz hk h)
 rw [hV]
 clear hV hR hz
 generalize treeB ts = T at *
 obtain ⟨n, hnn⟩ : ∃ n, ts.length = n := ⟨_, rfl⟩
 have HN := hid hnn
 rw [hnn] at hn CT CA HF HT CZ ⊢
 clear hnn
 go_enter Tryz.func12, Tryz.ntmps12
 go_wp2_with fail
 go_loopw [3, 4] (fun v3 v4 wr => ∃ (i : Nat) (a3 : Option Addr) (c3 nk : Nat), v4 = .int .i64 (i : Int) /\ i <= n /\ v3 = .slice a3 nk c3 /\ nk <= i /\ Hid ((idsTo ts i).length = nk) /\ Hid (IdsP ts i) /\ Hid (wr.ownsRow w.heap.size 9 1 (.slice a3 nk c3) nk (keyV (idsTo ts i))) /\ Hid (Below w.heap.size w wr)) (fun _ v4 _ => n - (intOf v4).toNat)
 case atStart => exact ⟨0, _, _, 0, rfl, Nat.zero_le _, rfl, Nat.zero_le _, rfl, idsP_zero ts, World.ownsRow_made _ _ _ (Nat.le_refl _) (by decide) rfl, (Below.refl _ _).alloc (Nat.le_refl _) _⟩
 case round =>
  obtain ⟨i, a3, c3, nk, rfl, hin, rfl, hki, HNK, HP, HO, HB⟩ := hrel
  by_cases hlt : i < n
  ·have hit : (i : Int) < (n : Int) := by omega
   obtain ⟨b, o, aa, na, ca, rfl, c2, hcall⟩ := CA.out i hlt _ HB.out
   have HC := hid hcall
   clear hcall
   go_wp2_with fail
   refine HC.out.mono ?_
   rintro e w1 ⟨rfl, rfl⟩
   clear HC c2
   cases hv : idAt ts i with
   | none =>
    have HP2 := hid (idsP_none hv HP.out)
    have HE := hid (idsTo_none hv)
    clear hv
    go_wp2_with fail
    go_roundw
    case rel => exact ⟨i + 1, a3, c3, nk, by go_num, by omega, rfl, by omega, by rw [HE.out]; exact HNK.out, HP2.out, by rw [HE.out]; exact HO.out, HB.out⟩
    case measure => simp [intOf]; omega
   | some v =>
    have HV := hid hv
    have HVZ := hid (CZ.out i v hlt hv)
    clear hv
    go_wp2_with fail
    go_loop [7] (fun v7 => ∃ q : Nat, v7 = .int .i64 (q : Int) /\ q <= nk /\ Hid (¬ v ∈ (idsTo ts i).take q)) (fun v7 => nk - (intOf v7).toNat)
    case atStart => exact ⟨0, rfl, Nat.zero_le _, by rw [List.take_zero]; exact List.not_mem_nil⟩
    case round =>
     obtain ⟨q, rfl, hq, HNM⟩ := hrel
     by_cases hql : q < nk
     ·have hqs : q < (idsTo ts i).length := by rw [HNK.out]; exact hql
      have hqn : (q : Int) < (nk : Int) := by omega
      obtain ⟨g, ea, cq⟩ := key_cell HO.out HNK.out hqs
      subst ea
      have hzz := str_beq (idsTo ts i)[q] v
      have HTS := hid (take_snocN hqs)
      have HME := hid (List.getElem_mem hqs)
      obtain ⟨kq, hkq⟩ : ∃ kq, (idsTo ts i)[q] = kq := ⟨_, rfl⟩
      rw [hkq] at cq hzz HTS HME
      clear hkq
      by_cases hd : kq = v
      ·subst hd
       have HW := hid (HF.out (idsP_bad HV.out hlt (.inr HME.out)))
       rw [decide_eq_true rfl] at hzz
       go_wp2_with fail
       go_ret
       exact ⟨by rw [HW.out]; rfl, HB.out⟩
      ·rw [decide_eq_false hd] at hzz
       have HN2 := hid (show ¬ v ∈ (idsTo ts i).take (q + 1) by
        rw [HTS.out, List.mem_append, List.mem_singleton]
        rintro (h | h)
        ·exact HNM.out h
        ·exact hd h.symm)
       clear hd HME HTS
       go_wp2_with fail
       go_round
       case rel => exact ⟨q + 1, by go_num, by omega, HN2.out⟩
       case measure => simp [intOf]; omega
     ·have hqe : q = nk := by omega
      subst hqe
      have HFR := hid (show ¬ v ∈ idsTo ts i by
       have h := HNM.out
       rw [List.take_of_length_le (by rw [HNK.out]; exact Nat.le_refl _)] at h
       exact h)
      clear HNM
      have CI := hid (fun wx => c_spec_l12Id v wx HVZ.out)
      go_wp2_with fail
      refine (CI.out _).mono ?_
      rintro e w2 ⟨rfl, hb2⟩
      have HB2 := hid (bb HB.out hb2)
      have HO2 := hid (ownsRow_below HO.out hb2)
      clear hb2 CI HB HO
      cases hok : idOk v with
      | false =>
       have HW := hid (HF.out (idsP_bad HV.out hlt (.inl hok)))
       clear hok
       go_wp2_with fail
       go_ret
       exact ⟨by rw [HW.out]; rfl, HB2.out⟩
      | true =>
       have HP2 := hid (idsP_some HV.out HP.out hok HFR.out)
       have HE := hid (idsTo_some HV.out)
       have hsz := HB2.out.size
       clear hok
       go_wp2_with (at_builtin; refine wpList_append_own _ rfl _ _ 38 rfl w.heap.size 9 i0 (.string ByteArray.empty) 1 16 Tryz.underlying38 HI.out.1 HI.out.2.1 HI.out.2.2.1 HI.out.2.2.2 rfl (by decide) _ _ _ rfl (HO2.out.alloc _) ⟨w2.heap.size, 0, none⟩ 1 1 [.string v] rfl rfl (one_cell _ _ _) (one_str _) (by unfold maxLen; omega) (by omega) (by simp; omega) ?_)
       intro v' w7 hown' hgrow _
       have HB7 := hid ((HB2.out.alloc hsz _).grown hgrow (by simp; omega) (fun k hk => (HO2.out.lt k hk).1))
       have hle : (idsTo ts (i + 1)).length = q + 1 := by rw [HE.out, List.length_append, HNK.out]; rfl
       rw [<- HNK.out] at hown'
       obtain ⟨a9, c9, rfl, ho9⟩ := key_more hown'
       rw [<- HE.out, hle] at ho9 ⊢
       have HO9 := hid ho9
       have HLE := hid hle
       clear hown' hgrow ho9 hle
       go_wp2_with fail
       go_roundw
       case rel => exact ⟨i + 1, a9, c9, q + 1, by go_num, by omega, rfl, by omega, HLE.out, HP2.out, HO9.out, HB7.out⟩
       case measure => simp [intOf]; omega
  ·have hie : i = n := by omega
   subst hie
   have HW := hid (HT.out HP.out)
   go_wp2_with fail
   refine (CT.out _ HB.out).mono ?_
   rintro e w2 ⟨rfl, hb2⟩
   have HB2 := hid (bb HB.out hb2)
   clear hb2
   go_wp2_with fail
   go_ret
   exact ⟨by rw [HW.out]; rfl, HB2.out⟩

end Go.Proofs.YtoioiddjbanahaaGreatDoor

namespace Go.Proofs.YtoioiddjbanahaaGreatDoor

open Go.RowKit

def refF (l : List At) : ByteArray := (valF l refS).getD ByteArray.empty

def sumF (l : List At) : ByteArray := (valF l sumS).getD ByteArray.empty

def sgnF (l : List At) : Int := (numOf ((valF l signS).getD ByteArray.empty).data.toList).1

theorem val_sz {n : Nat} {l : List At} (hz : AtSz n l) (s : ByteArray) : ((valF l s).getD ByteArray.empty).size <= n := by
 cases h : valF l s with
 | none => exact Nat.zero_le _
 | some v =>
  obtain ⟨x, hx, rfl⟩ := valF_mem h
  exact (hz _ hx).2

theorem cValAtS {w : World} {a : Option Addr} {ts : List Tk} (hR : TkRow w a ts) (hz : TksSz 1048576 ts) {k : Nat} (hk : k < ts.length) :
  ∃ b o aa na ca, a = some ⟨b, o, none⟩ /\ w.cell? ⟨b, o + k * 4 + 2, none⟩ = some (.slice aa na ca) /\ ∀ s : ByteArray, s.size <= 1048576 -> (Calls Tryz.prog 36 #[.slice aa na ca, .string s] w fun e w' => e = .returned (.tuple #[.string ((valF (atsJ ts k) s).getD ByteArray.empty), .bool (valF (atsJ ts k) s).isSome]) /\ w' = w) := by
 obtain ⟨b, o, aa, ca, e, c2, hA⟩ := ats_row hR hk
 have h3 := hz _ (List.getElem_mem hk)
 have e2 : atsJ ts k = ts[k].attrs := by unfold atsJ; rw [List.getElem?_eq_getElem hk]
 rw [e2]
 exact ⟨b, o, aa, _, ca, e, c2, fun s hs => cValueInS aa ca ts[k].attrs s w hA h3.2.2.1 h3.2.1 hs⟩

theorem ats_sz {ts : List Tk} (hz : TksSz 1048576 ts) {k : Nat} (hk : k < ts.length) : AtSz 1048576 (atsJ ts k) := by
 have e2 : atsJ ts k = ts[k].attrs := by unfold atsJ; rw [List.getElem?_eq_getElem hk]
 rw [e2]
 exact (hz _ (List.getElem_mem hk)).2.2.1

set_option maxHeartbeats 4000000 in
theorem c_spec_l13Says (a : Option Addr) (cap : Nat) (ts : List Tk) (k : Nat) (w : World) (hR : TkRow w a ts) (hk : k < ts.length) (hn : ts.length <= 1048576) (hz : TksSz 1048576 ts) :
  Calls Tryz.prog 68 #[.slice a ts.length cap, .int .i64 (k : Int)] w fun e w' => e = .returned (.tuple #[.string (refF (atsJ ts k)), .string (sumF (atsJ ts k)), .int .i64 (sgnF (atsJ ts k))]) /\ w' = w := by
 obtain ⟨b, o, aa, na, ca, rfl, c2, hc⟩ := cValAtS hR hz hk
 have CR := hid (hc refS (by decide))
 have CS := hid (hc sumS (by decide))
 have CG := hid (hc signS (by decide))
 have CN := hid (fun wx => cNumS ((valF (atsJ ts k) signS).getD ByteArray.empty) wx (val_sz (ats_sz hz hk) _))
 have hkn : (k : Int) < (ts.length : Int) := by omega
 unfold refF sumF sgnF
 clear hc hR hz
 generalize (valF (atsJ ts k) refS).getD ByteArray.empty = R at *
 generalize (valF (atsJ ts k) refS).isSome = R1 at *
 generalize (valF (atsJ ts k) sumS).getD ByteArray.empty = S at *
 generalize (valF (atsJ ts k) sumS).isSome = S1 at *
 generalize (valF (atsJ ts k) signS).getD ByteArray.empty = G at *
 generalize (valF (atsJ ts k) signS).isSome = G1 at *
 generalize (numOf G.data.toList).1 = X at *
 generalize (numOf G.data.toList).2 = X1 at *
 generalize ts.length = n at *
 go_enter Tryz.func68, Tryz.ntmps68
 go_wp2_with fail
 refine CR.out.mono ?_
 rintro e w1 ⟨rfl, rfl⟩
 clear CR
 go_wp2_with fail
 refine CS.out.mono ?_
 rintro e w1 ⟨rfl, rfl⟩
 clear CS
 go_wp2_with fail
 refine CG.out.mono ?_
 rintro e w1 ⟨rfl, rfl⟩
 clear CG
 go_wp2_with fail
 refine (CN.out _).mono ?_
 rintro e w1 ⟨rfl, rfl⟩
 clear CN
 go_wp2_with fail
 go_ret3
 exact ⟨rfl, rfl⟩

noncomputable def refersN (ts : List Tk) (k : Nat) : Bool := open Classical in decide (0 <= parI ts k) && decide (idAt ts (parI ts k).toNat = some (refF (atsJ ts k)))

theorem up_lt {ts : List Tk} (hT : TreeP ts) {k p : Nat} (hk : k < ts.length) (hp : parI ts k = (p : Int)) : p < k := by
 rcases Nat.eq_zero_or_pos k with h0 | h0
 ·subst h0
  rw [hT.2.2.1] at hp
  omega
 ·rcases (hT.2.2.2.2 k hk).2.1 with h' | ⟨q, hm, e, _⟩
  ·omega
  ·obtain ⟨j, rfl⟩ : ∃ j, k = j + 1 := ⟨k - 1, by omega⟩
   have := (linked_all j (fun m hm => (hT.2.2.2.2 m (by omega)).2.1)).2 q hm
   omega

set_option maxHeartbeats 4000000 in
theorem c_spec_l13Refers (a : Option Addr) (cap : Nat) (ts : List Tk) (k : Nat) (w : World) (hR : TkRow w a ts) (hT : TreeP ts) (hk : k < ts.length) (hn : ts.length <= 1048576) (hz : TksSz 1048576 ts) :
  Calls Tryz.prog 67 #[.slice a ts.length cap, .int .i64 (k : Int)] w fun e w' => e = .returned (.bool (refersN ts k)) /\ w' = w := by
 have C := hid (c_spec_l13Says a cap ts k w hR hk hn hz)
 obtain ⟨b, o, ea, c0, -⟩ := hR.kindAt k hk
 have hkn : (k : Int) < (ts.length : Int) := by omega
 by_cases h0 : parI ts k < 0
 ·have HE := hid (show refersN ts k = false by unfold refersN; rw [decide_eq_false (by omega)]; rfl)
  rw [HE.out]
  subst ea
  have h1 : decide (parI ts k < 0) = true := decide_eq_true h0
  clear hR hz HE hT h0
  generalize parI ts k = P at *
  generalize refF (atsJ ts k) = R at *
  generalize sumF (atsJ ts k) = S at *
  generalize sgnF (atsJ ts k) = G at *
  generalize ts.length = n at *
  go_enter Tryz.func67, Tryz.ntmps67
  go_wp2_with fail
  refine C.out.mono ?_
  rintro e w1 ⟨rfl, rfl⟩
  clear C
  go_wp2_with fail
  go_ret
  exact ⟨rfl, rfl⟩
 ·obtain ⟨p, hp⟩ : ∃ p : Nat, parI ts k = p := ⟨(parI ts k).toNat, by omega⟩
  have hpk := up_lt hT hk hp
  have hpn : (p : Int) < (ts.length : Int) := by omega
  have HE := hid (show refersN ts k = (open Classical in decide (idAt ts p = some (refF (atsJ ts k)))) by unfold refersN; rw [hp, decide_eq_true (by omega)]; rfl)
  rw [HE.out]
  obtain ⟨b', o', aa, na, ca, ea', c2, hcall⟩ := cIdAtS hR hn hz (show p < ts.length by omega)
  have CI := hid hcall
  subst ea
  obtain ⟨rfl, rfl⟩ : b = b' /\ o = o' := by cases ea'; exact ⟨rfl, rfl⟩
  rw [hp] at c0
  have hs := str_beq ((idAt ts p).getD ByteArray.empty) (refF (atsJ ts k))
  clear hR hz HE hT h0 ea' hcall hp
  obtain ⟨R, hRR⟩ : ∃ R, refF (atsJ ts k) = R := ⟨_, rfl⟩
  rw [hRR] at C hs ⊢
  clear hRR
  generalize sumF (atsJ ts k) = S at *
  generalize sgnF (atsJ ts k) = G at *
  generalize ts.length = n at *
  cases hv : idAt ts p with
  | none =>
   rw [hv] at CI
   clear hs hv
   go_enter Tryz.func67, Tryz.ntmps67
   go_wp2_with fail
   refine C.out.mono ?_
   rintro e w1 ⟨rfl, rfl⟩
   clear C
   go_wp2_with fail
   refine CI.out.mono ?_
   rintro e w1 ⟨rfl, rfl⟩
   clear CI
   go_wp2_with fail
   go_ret
   exact ⟨by simp, rfl⟩
  | some v =>
   rw [hv] at CI hs
   have e : (open Classical in decide (some v = some R)) = decide (v = R) := by
    by_cases q : v = R
    ·subst q; simp
    ·rw [decide_eq_false q]; simp [q]
   rw [e]
   simp only [Option.getD_some] at hs CI
   generalize decide (v = R) = Y at *
   clear hv e
   go_enter Tryz.func67, Tryz.ntmps67
   go_wp2_with fail
   refine C.out.mono ?_
   rintro e w1 ⟨rfl, rfl⟩
   clear C
   go_wp2_with fail
   refine CI.out.mono ?_
   rintro e w1 ⟨rfl, rfl⟩
   clear CI
   go_wp2_with fail
   go_ret
   exact ⟨rfl, rfl⟩

end Go.Proofs.YtoioiddjbanahaaGreatDoor

namespace Go.Proofs.YtoioiddjbanahaaGreatDoor

open Go.RowKit

def CellsAt (w : World) (b o : Nat) (cs : List Value) : Prop := ∀ j u, cs[j]? = some u -> w.cell? ⟨b, o + j, none⟩ = some u

structure Rd (w : World) (s : Nat) (v : Value) (n : Nat) (cs : List Value) : Prop where
 at_ : ∃ b o c, v = .slice (some ⟨b, o, none⟩) n c /\ b < w.heap.size /\ n <= c /\ CellsAt w b o cs
 len : cs.length = n * s

theorem Rd.below {w w' : World} {s n : Nat} {v : Value} {cs : List Value} (h : Rd w s v n cs) (hb : Below w.heap.size w w') : Rd w' s v n cs := by
 obtain ⟨b, o, c, e1, e2, e3, e4⟩ := h.at_
 exact ⟨⟨b, o, c, e1, Nat.lt_of_lt_of_le e2 hb.size, e3, fun j u hj => (hb.cell (p := ⟨b, o + j, none⟩) e2).trans (e4 j u hj)⟩, h.len⟩

theorem Rd.own {w : World} {B : Nat} {e : TypeId} {s n g c : Nat} {cs : List Value} (h : w.ownsRow B e s (.slice (some ⟨g, 0, none⟩) n c) n cs) : Rd w s (.slice (some ⟨g, 0, none⟩) n c) n cs := by
 rcases h.2 with ⟨e1, _⟩ | ⟨g', cap, cur, e1, _, h3, h4, _⟩
 ·cases e1
 ·cases e1
  refine ⟨⟨g, 0, c, rfl, lt_of_heap h3, h4, fun j u hj => ?_⟩, h.1⟩
  have hl : j < n * s := by rw [<- h.1]; exact (List.getElem?_eq_some_iff.1 hj).1
  rw [Nat.zero_add, World.ownsRow.cellAt h j hl]
  exact hj

theorem run_own {P : Program} (W : World) (t ty e : TypeId) (i : TypeInfo) (z : Value) (size bytes : Nat) (h1 : P.underlying t = some (.slice e)) (h2 : P.info? e = some i) (h3 : i.zero = some z) (h4 : i.size = size) (h5 : i.bytes = bytes) (h6 : z.cells.size = size) (h7 : 0 < size)
  (B g c n m : Nat) (xs news : List Value) (x : Value) (hown : W.ownsRow B e size (.slice (some ⟨g, 0, none⟩) n c) n xs) (hx : Rd W size x m news) (h1c : ∀ u ∈ news, u.oneCell' = true) (b1 : n + m <= 1048576) (b2 : bytes <= 1000) (b3 : B <= W.heap.size) :
  ∃ g' c' w', (Builtin.append_ #[t, t] ty #[.slice (some ⟨g, 0, none⟩) n c, x]).run P W = .ok (.slice (some ⟨g', 0, none⟩) (n + m) c') w' /\ w'.ownsRow B e size (.slice (some ⟨g', 0, none⟩) (n + m) c') (n + m) (xs ++ news) /\ Below B W w' /\ W.grownBy w' (some g) := by
 obtain ⟨b, o, cx, rfl, hb, hmc, hcs⟩ := hx.at_
 obtain ⟨v', w', hrun, r1, r2, _, r3⟩ := run_append_own_at (P := P) W B t ty e i z size bytes h1 h2 h3 h4 h5 h6 h7 _ n xs hown ⟨b, o, none⟩ m cx news hx.len (fun j u hj => by rw [add_plainW]; exact hcs j u hj) h1c (by unfold maxLen; omega) (by
  have : (n + m) * bytes <= 1048576 * 1000 := Nat.mul_le_mul b1 b2
  omega) b3
 rcases r1.2 with ⟨e1, _⟩ | ⟨g', cap', cur, e1, _⟩
 ·subst e1
  rcases r3 with r3 | r3 <;> cases r3
 ·subst e1
  exact ⟨g', cap', w', hrun, r1, (Below.refl B W).grown r2 b3 (fun k e => (hown.lt k e).1), r2⟩

theorem wpL_own {P : Program} (W : World) {ops : Array Oper} {rest : List Oper} {o : Oper} {a : Act} {Q : Exit -> Act -> World -> Prop} (hgd : o.guard = none) (s x : Operand) (t : TypeId)
  (ho : o.op = .call { callee := .builtin .append, args := #[s, x], argTypes := #[t, t] }) (e : TypeId) (i : TypeInfo) (z : Value) (size bytes : Nat) (h1 : P.underlying t = some (.slice e)) (h2 : P.info? e = some i) (h3 : i.zero = some z) (h4 : i.size = size) (h5 : i.bytes = bytes) (h6 : z.cells.size = size) (h7 : 0 < size)
  (B g c n m : Nat) (xs news : List Value) (vx : Value) (hs : a.eval s = .slice (some ⟨g, 0, none⟩) n c) (hxe : a.eval x = vx) (hown : W.ownsRow B e size (.slice (some ⟨g, 0, none⟩) n c) n xs) (hx : Rd W size vx m news) (h1c : ∀ u ∈ news, u.oneCell' = true) (b1 : n + m <= 1048576) (b2 : bytes <= 1000) (b3 : B <= W.heap.size) (N : Nat) (hN : n + m = N) (ys : List Value) (hys : xs ++ news = ys)
  (h : ∀ g' c' w', w'.ownsRow B e size (.slice (some ⟨g', 0, none⟩) N c') N ys -> Below B W w' -> wpList P ops Q rest (a.put o.dst (.slice (some ⟨g', 0, none⟩) N c')) w') : wpList P ops Q (o :: rest) a W := by
 subst hN
 subst hys
 obtain ⟨g', c', w', hrun, r1, r2, _⟩ := run_own (P := P) W t o.type e i z size bytes h1 h2 h3 h4 h5 h6 h7 B g c n m xs news vx hown hx h1c b1 b2 b3
 refine wpList_plain hgd fun K hK => ?_
 unfold Oper.wp
 simp [execOp, ho, resolve, invoke, builtin, hs, hxe, hrun, Result.andThen]
 exact hK _ _ (h g' c' w' r1 r2)

theorem step_own {P : Program} {W : World} {ops : Array Oper} {o : Oper} {a : Act} {K : Act -> World -> Prop} {Q : Exit -> Act -> World -> Prop} {E : Prop} (hgd : o.guard = none) (s x : Operand) (t : TypeId)
  (ho : o.op = .call { callee := .builtin .append, args := #[s, x], argTypes := #[t, t] }) (e : TypeId) (i : TypeInfo) (z : Value) (size bytes : Nat) (h1 : P.underlying t = some (.slice e)) (h2 : P.info? e = some i) (h3 : i.zero = some z) (h4 : i.size = size) (h5 : i.bytes = bytes) (h6 : z.cells.size = size) (h7 : 0 < size)
  (B g c n m : Nat) (xs news : List Value) (vx : Value) (hs : a.eval s = .slice (some ⟨g, 0, none⟩) n c) (hxe : a.eval x = vx) (hown : W.ownsRow B e size (.slice (some ⟨g, 0, none⟩) n c) n xs) (hx : Rd W size vx m news) (h1c : ∀ u ∈ news, u.oneCell' = true) (b1 : n + m <= 1048576) (b2 : bytes <= 1000) (b3 : B <= W.heap.size) (N : Nat) (hN : n + m = N) (ys : List Value) (hys : xs ++ news = ys)
  (h : ∀ g' c' w', w'.ownsRow B e size (.slice (some ⟨g', 0, none⟩) N c') N ys -> Below B W w' -> W.grownBy w' (some g) -> K (a.put o.dst (.slice (some ⟨g', 0, none⟩) N c')) w') :
  if Region.wanted o (yielded ops a.tmps) = true then Oper.wp P o a W K Q else E := by
 subst hN
 subst hys
 have hw : Region.wanted o (yielded ops a.tmps) = true := by simp [Region.wanted, hgd]
 rw [if_pos hw]
 obtain ⟨g', c', w', hrun, r1, r2, r3⟩ := run_own (P := P) W t o.type e i z size bytes h1 h2 h3 h4 h5 h6 h7 B g c n m xs news vx hown hx h1c b1 b2 b3
 unfold Oper.wp
 simp [execOp, ho, resolve, invoke, builtin, hs, hxe, hrun, Result.andThen]
 exact h g' c' w' r1 r2 r3

theorem own_new (W : World) (e : TypeId) (s : Nat) : (W.alloc (.cells #[] e)).ownsRow W.heap.size e s (.slice (some ⟨W.heap.size, 0, none⟩) 0 0) 0 [] :=
 ⟨by simp, .inr ⟨W.heap.size, 0, #[], rfl, Nat.le_refl _, heap_alloc_new _ _, Nat.le_refl _, Nat.zero_le _, by simp, by simp⟩⟩

theorem own_base {w : World} {B B' n : Nat} {v : Value} {xs : List Value} {e : TypeId} {s : Nat} (h : w.ownsRow B' e s v n xs) (hB : B <= B') : w.ownsRow B e s v n xs := by
 refine ⟨h.1, ?_⟩
 rcases h.2 with h' | ⟨g, cap, cur, h1, h2, h3⟩
 ·exact .inl h'
 ·exact .inr ⟨g, cap, cur, h1, Nat.le_trans hB h2, h3⟩

theorem Rd.from {w : World} {s n c b o : Nat} {cs : List Value} (h : Rd w s (.slice (some ⟨b, o, none⟩) n c) n cs) {k : Nat} (hk : k <= n) : Rd w s (.slice (some (if c = k then ⟨b, o, none⟩ else ⟨b, o + k * s, none⟩)) (n - k) (c - k)) (n - k) (cs.drop (k * s)) := by
 obtain ⟨b', o', c', e, h1, h2, h3⟩ := h.at_
 cases e
 have hl : (cs.drop (k * s)).length = (n - k) * s := by rw [List.length_drop, h.len, Nat.sub_mul]
 split
 ·have e0 : cs.drop (k * s) = [] := List.eq_nil_of_length_eq_zero (by rw [hl, show n - k = 0 by omega, Nat.zero_mul])
  exact ⟨⟨b, o, _, rfl, h1, by omega, fun j u hj => by rw [e0] at hj; cases hj⟩, hl⟩
 ·exact ⟨⟨b, o + k * s, _, rfl, h1, by omega, fun j u hj => by
   rw [List.getElem?_drop] at hj
   rw [Nat.add_assoc]
   exact h3 _ _ hj⟩, hl⟩

theorem Rd.upto {w : World} {s n c b o : Nat} {cs : List Value} (h : Rd w s (.slice (some ⟨b, o, none⟩) n c) n cs) {k : Nat} (hk : k <= n) : Rd w s (.slice (some ⟨b, o, none⟩) k c) k (cs.take (k * s)) := by
 obtain ⟨b', o', c', e, h1, h2, h3⟩ := h.at_
 cases e
 refine ⟨⟨b, o, _, rfl, h1, by omega, fun j u hj => ?_⟩, by rw [List.length_take, h.len]; exact Nat.min_eq_left (Nat.mul_le_mul_right _ hk)⟩
 rw [List.getElem?_take] at hj
 split at hj
 ·exact h3 _ _ hj
 ·cases hj

theorem Rd.new (W : World) (e : TypeId) (s : Nat) (cs : List Value) (n : Nat) (h : cs.length = n * s) : Rd (W.alloc (.cells cs.toArray e)) s (.slice (some ⟨W.heap.size, 0, none⟩) n n) n cs :=
 ⟨⟨W.heap.size, 0, n, rfl, by simp, Nat.le_refl _, fun j u hj => by rw [Lib.cell_of_heap (heap_alloc_new W _), Nat.zero_add]; simpa using hj⟩, h⟩

theorem Rd.grown {w w' : World} {s n b o c : Nat} {cs : List Value} {g : Nat} (h : Rd w s (.slice (some ⟨b, o, none⟩) n c) n cs) (hg : w.grownBy w' (some g)) (hne : ¬ g = b) : Rd w' s (.slice (some ⟨b, o, none⟩) n c) n cs := by
 obtain ⟨b', o', c', e, h1, h2, h3⟩ := h.at_
 cases e
 exact ⟨⟨b, o, c, rfl, Nat.lt_of_lt_of_le h1 hg.size, h2, fun j u hj => cell_grownR hg (h3 j u hj) h1 (fun e => hne (by cases e; rfl))⟩, h.len⟩

theorem keyV_cell (l : List ByteArray) : ∀ u ∈ keyV l, u.oneCell' = true := by
 intro u hu
 obtain ⟨s, _, rfl⟩ := List.mem_map.1 hu
 rfl

theorem atC_cell (l : List At) : ∀ u ∈ atC l, u.oneCell' = true := by
 intro u hu
 obtain ⟨x, _, he⟩ := List.mem_flatMap.1 hu
 simp at he
 rcases he with rfl | rfl <;> rfl

theorem atC_lenC (l : List At) : (atC l).length = l.length * 2 := by
 induction l with
 | nil => rfl
 | cons x l ih => show (atC l).length + 2 = _; rw [ih, List.length_cons]; omega

theorem atC_drop (l : List At) : ∀ k, (atC l).drop (k * 2) = atC (l.drop k) := by
 induction l with
 | nil => intro k; simp [atC]
 | cons x l ih =>
  intro k
  cases k with
  | zero => rfl
  | succ k =>
   have e : atC (x :: l) = .string x.name :: .string x.value :: atC l := rfl
   rw [e, show (k + 1) * 2 = k * 2 + 1 + 1 by omega, List.drop_succ_cons, List.drop_succ_cons, List.drop_succ_cons]
   exact ih k

theorem atC_take (l : List At) : ∀ k, (atC l).take (k * 2) = atC (l.take k) := by
 induction l with
 | nil => intro k; simp [atC]
 | cons x l ih =>
  intro k
  cases k with
  | zero => rfl
  | succ k =>
   have e : atC (x :: l) = .string x.name :: .string x.value :: atC l := rfl
   rw [e, show (k + 1) * 2 = k * 2 + 1 + 1 by omega, List.take_succ_cons, List.take_succ_cons, List.take_succ_cons, ih k]
   rfl

theorem Rd.key {w : World} {n : Nat} {v : Value} {l : List ByteArray} (h : Rd w 1 v n (keyV l)) {i : Nat} (hi : i < l.length) : ∃ b o c, v = .slice (some ⟨b, o, none⟩) n c /\ b < w.heap.size /\ n <= c /\ w.cell? ⟨b, o + i, none⟩ = some (.string l[i]) := by
 obtain ⟨b, o, c, e, h1, h2, h3⟩ := h.at_
 exact ⟨b, o, c, e, h1, h2, h3 i _ (by simp [keyV, hi])⟩

theorem Rd.pair {w : World} {n : Nat} {v : Value} {l : List At} (h : Rd w 2 v n (atC l)) {i : Nat} (hi : i < l.length) : ∃ b o c, v = .slice (some ⟨b, o, none⟩) n c /\ b < w.heap.size /\ n <= c /\ w.cell? ⟨b, o + i * 2, none⟩ = some (.string l[i].name) /\ w.cell? ⟨b, o + i * 2 + 1, none⟩ = some (.string l[i].value) := by
 obtain ⟨b, o, c, e, h1, h2, h3⟩ := h.at_
 obtain ⟨k1, k2⟩ := atC_get l i hi
 exact ⟨b, o, c, e, h1, h2, h3 _ _ k1, h3 (i * 2 + 1) _ k2⟩

theorem Rd.ats {w : World} {n : Nat} {a : Option Addr} {c : Nat} {l : List At} (h : Rd w 2 (.slice a n c) n (atC l)) : AtRow w a l := by
 intro i hi
 obtain ⟨b, o, c', e, h1, h2, h3, h4⟩ := h.pair hi
 cases e
 exact ⟨b, o, rfl, h1, h3, h4⟩

structure Sr (w : World) (s : Nat) (v : Value) (n : Nat) (cs : List Value) : Prop where
 at_ : ∃ a c, v = .slice a n c /\ (0 < n -> ∃ b o, a = some ⟨b, o, none⟩ /\ b < w.heap.size /\ CellsAt w b o cs)
 len : cs.length = n * s

theorem Sr.below {w w' : World} {s n : Nat} {v : Value} {cs : List Value} (h : Sr w s v n cs) (hb : Below w.heap.size w w') : Sr w' s v n cs := by
 obtain ⟨a, c, e1, e2⟩ := h.at_
 refine ⟨⟨a, c, e1, fun hn => ?_⟩, h.len⟩
 obtain ⟨b, o, f1, f2, f3⟩ := e2 hn
 exact ⟨b, o, f1, Nat.lt_of_lt_of_le f2 hb.size, fun j u hj => (hb.cell (p := ⟨b, o + j, none⟩) f2).trans (f3 j u hj)⟩

theorem AtRow.sr {w : World} {a : Option Addr} {l : List At} {n c : Nat} (h : AtRow w a l) (hn : l.length = n) : Sr w 2 (.slice a n c) n (atC l) := by
 refine ⟨⟨a, c, rfl, fun h0 => ?_⟩, by rw [atC_lenC, hn]⟩
 obtain ⟨b, o, e, hb, _, _⟩ := h 0 (by omega)
 refine ⟨b, o, e, hb, fun j u hj => ?_⟩
 have hl : j < (atC l).length := (List.getElem?_eq_some_iff.1 hj).1
 rw [atC_lenC] at hl
 obtain ⟨b2, o2, e2, _, c1, c2⟩ := h (j / 2) (by omega)
 rw [e] at e2
 obtain ⟨rfl, rfl⟩ : b = b2 /\ o = o2 := by cases e2; exact ⟨rfl, rfl⟩
 obtain ⟨k1, k2⟩ := atC_get l (j / 2) (by omega)
 rcases Nat.mod_two_eq_zero_or_one j with hm | hm
 ·have ej : j / 2 * 2 = j := by omega
  rw [ej] at k1 c1
  rw [k1] at hj
  cases hj
  exact c1
 ·have ej : j / 2 * 2 + 1 = j := by omega
  rw [ej] at k2
  rw [k2] at hj
  cases hj
  rw [Nat.add_assoc, ej] at c2
  exact c2

theorem step_src {P : Program} {W : World} {ops : Array Oper} {o : Oper} {a : Act} {K : Act -> World -> Prop} {Q : Exit -> Act -> World -> Prop} {E : Prop} (hgd : o.guard = none) (s x : Operand) (t : TypeId)
  (ho : o.op = .call { callee := .builtin .append, args := #[s, x], argTypes := #[t, t] }) (e : TypeId) (i : TypeInfo) (z : Value) (size bytes : Nat) (h1 : P.underlying t = some (.slice e)) (h2 : P.info? e = some i) (h3 : i.zero = some z) (h4 : i.size = size) (h5 : i.bytes = bytes) (h6 : z.cells.size = size) (h7 : 0 < size)
  (B g c n m : Nat) (xs news : List Value) (vx : Value) (hs : a.eval s = .slice (some ⟨g, 0, none⟩) n c) (hxe : a.eval x = vx) (hown : W.ownsRow B e size (.slice (some ⟨g, 0, none⟩) n c) n xs) (hx : Sr W size vx m news) (h1c : ∀ u ∈ news, u.oneCell' = true) (b1 : n + m <= 1048576) (b2 : bytes <= 1000) (b3 : B <= W.heap.size) (N : Nat) (hN : n + m = N) (ys : List Value) (hys : xs ++ news = ys)
  (h : ∀ g' c' w', w'.ownsRow B e size (.slice (some ⟨g', 0, none⟩) N c') N ys -> Below B W w' -> W.grownBy w' (some g) -> K (a.put o.dst (.slice (some ⟨g', 0, none⟩) N c')) w') :
  if Region.wanted o (yielded ops a.tmps) = true then Oper.wp P o a W K Q else E := by
 obtain ⟨ax, cx, rfl, hpos⟩ := hx.at_
 rcases Nat.eq_zero_or_pos m with h0 | h0
 ·subst h0
  have hw : Region.wanted o (yielded ops a.tmps) = true := by simp [Region.wanted, hgd]
  rw [if_pos hw]
  have hnews : news = [] := List.eq_nil_of_length_eq_zero (by rw [hx.len, Nat.zero_mul])
  subst hnews
  rw [List.append_nil] at hys
  subst hys
  subst hN
  have hsrc : Src P i.size t (.slice ax 0 cx) 0 [] W := by
   cases ax with
   | none => exact Src.ofNil W h1 cx
   | some ad => exact Src.ofSlice W h1 ad 0 cx [] (by simp) (fun j u h => by simp at h) (fun u h => by cases h)
  have hle : n <= c := by
   rcases hown.2 with ⟨e1, _⟩ | ⟨g', cap, cur, e1, _, _, hc, _⟩
   ·cases e1
   ·cases e1
    exact hc
  have hr := run_append_nothing (P := P) W t t o.type e i h1 h2 (some ⟨g, 0, none⟩) n c hle _ hsrc
  unfold Oper.wp
  simp [execOp, ho, resolve, invoke, builtin, hs, hxe, hr, Result.andThen]
  exact h g c W (by rw [Nat.add_zero]; exact hown) (Below.refl _ _) ⟨rfl, rfl, rfl, Nat.le_refl _, fun i _ _ => rfl⟩
 ·obtain ⟨b, o', rfl, hb, hcs⟩ := hpos h0
  have hw : Region.wanted o (yielded ops a.tmps) = true := by simp [Region.wanted, hgd]
  rw [if_pos hw]
  subst hN
  subst hys
  obtain ⟨v', w', hrun, r1, r2, _, r3⟩ := run_append_own_at (P := P) W B t o.type e i z size bytes h1 h2 h3 h4 h5 h6 h7 _ n xs hown ⟨b, o', none⟩ m cx news hx.len (fun j u hj => by rw [add_plainW]; exact hcs j u hj) h1c (by unfold maxLen; omega) (by
   have : (n + m) * bytes <= 1048576 * 1000 := Nat.mul_le_mul b1 b2
   omega) b3
  rcases r1.2 with ⟨e1, _⟩ | ⟨g', cap', cur, e1, _⟩
  ·subst e1
   rcases r3 with r3 | r3 <;> cases r3
  ·subst e1
   unfold Oper.wp
   simp [execOp, ho, resolve, invoke, builtin, hs, hxe, hrun, Result.andThen]
   exact h g' cap' w' r1 ((Below.refl B W).grown r2 b3 (fun k e => (hown.lt k e).1)) r2

end Go.Proofs.YtoioiddjbanahaaGreatDoor

namespace Go.Proofs.YtoioiddjbanahaaGreatDoor

open Go.RowKit

def ltB (a b : ByteArray) : Bool := Op.bytesLess a.toList b.toList

noncomputable def atMean (ts : List Tk) (k : Nat) (x : At) : ByteArray := if (preS x.name).size = 0 then ⟨#[]⟩ else (meanF ts k (preS x.name)).getD ⟨#[]⟩

noncomputable def aheadF (ts : List Tk) (k : Nat) (x y : At) : Bool := open Classical in ltB (atMean ts k x) (atMean ts k y) || (decide (atMean ts k x = atMean ts k y) && ltB (locS x.name) (locS y.name))

theorem ahead_of {ts : List Tk} {k : Nat} {x y : At} {M N : ByteArray} (h1 : atMean ts k x = M) (h2 : atMean ts k y = N) : aheadF ts k x y = (Op.bytesLess M.toList N.toList || ((M.toList == N.toList) && Op.bytesLess (locS x.name).toList (locS y.name).toList)) := by
 unfold aheadF
 rw [h1, h2, str_beq]
 unfold ltB
 congr 2

theorem e_lit : (⟨#[]⟩ : ByteArray).toList = [] := by rw [ByteArray.toList_eq]

set_option maxRecDepth 4000 in
set_option maxHeartbeats 4000000 in
theorem c_spec_l11Ahead (a : Option Addr) (cap : Nat) (ts : List Tk) (k : Nat) (x y : At) (w : World) (hR : TkRow w a ts) (hT : TreeP ts) (hk : k < ts.length) (hn : ts.length <= 1048576) (hz : TksSz 1048576 ts) (hx : x.name.size <= 1048576) (hy : y.name.size <= 1048576) :
  Calls Tryz.prog 82 #[.slice a ts.length cap, .int .i64 (k : Int), .agg #[.string x.name, .string x.value], .agg #[.string y.name, .string y.value]] w fun e w' => e = .returned (.bool (aheadF ts k x y)) /\ Below w.heap.size w w' := by
 have HB := hid (((Below.refl w.heap.size w).alloc (Nat.le_refl _) (.cells #[.string x.name, .string x.value] 67)))
 have CP := hid (fun wx => cPartsX x.name wx hx)
 have CQ := hid (fun wx => cPartsX y.name wx hy)
 have CM := hid (fun wx (hb : Below w.heap.size w wx) => c_spec_l9Meaning a cap ts k (preS x.name) wx (hR.below hb) hT hk hn hz (preS_sz hx))
 have CN := hid (fun wx (hb : Below w.heap.size w wx) => c_spec_l9Meaning a cap ts k (preS y.name) wx (hR.below hb) hT hk hn hz (preS_sz hy))
 have A := hid (fun (M N : ByteArray) (h1 : atMean ts k x = M) (h2 : atMean ts k y = N) => ahead_of h1 h2)
 have E1 := empty_is (preS x.name)
 have E2 := empty_is (preS y.name)
 have M1 := hid (show (preS x.name).size = 0 -> atMean ts k x = ⟨#[]⟩ from fun h => by unfold atMean; rw [if_pos h])
 have M2 := hid (show ¬ (preS x.name).size = 0 -> atMean ts k x = (meanF ts k (preS x.name)).getD ⟨#[]⟩ from fun h => by unfold atMean; rw [if_neg h])
 have N1 := hid (show (preS y.name).size = 0 -> atMean ts k y = ⟨#[]⟩ from fun h => by unfold atMean; rw [if_pos h])
 have N2 := hid (show ¬ (preS y.name).size = 0 -> atMean ts k y = (meanF ts k (preS y.name)).getD ⟨#[]⟩ from fun h => by unfold atMean; rw [if_neg h])
 have Z := aheadF ts k x y
 obtain ⟨V, hV⟩ : ∃ V, aheadF ts k x y = V := ⟨_, rfl⟩
 rw [hV] at A ⊢
 have eh : (w.alloc (.cells #[.string x.name, .string x.value] 67)).heap.size = w.heap.size + 1 := by simp
 have hbx := box_two (w.alloc (.cells #[.string x.name, .string x.value] 67)) (.string y.name) (.string y.value) 67
 rw [eh] at hbx
 have HBX := hid hbx
 clear hV hR hT hk hn hz hx hy eh hbx Z
 go_enter Tryz.func82, Tryz.ntmps82
 go_wp2_with fail
 refine (CP.out _).mono ?_
 rintro e w1 ⟨rfl, hb1⟩
 have HBY := hid (HB.out.alloc HB.out.size (.cells #[.string y.name, .string y.value] 67))
 have HX := hid (bb HBY.out hb1)
 have d1 := (hb1.cell (p := ⟨w.heap.size + 1, 0, none⟩) HBX.out.2.2).trans HBX.out.1
 clear hb1 HBX HB HBY CP
 go_wp2_with fail
 refine (CQ.out _).mono ?_
 rintro e w2 ⟨rfl, hb2⟩
 have HX2 := hid (bb HX.out hb2)
 clear hb2 HX d1 CQ
 generalize preS x.name = P at *
 generalize preS y.name = Q at *
 generalize locS x.name = L at *
 generalize locS y.name = R at *
 by_cases hp : P.size = 0
 ·have HM := hid (M1.out hp)
  rw [decide_eq_true hp] at E1
  clear hp
  by_cases hq : Q.size = 0
  ·have HN := hid (N1.out hq)
   rw [decide_eq_true hq] at E2
   clear hq
   have HA := A.out _ _ HM.out HN.out
   simp only [e_lit] at HA
   have HA := hid HA
   clear A HM HN CM CN M1 M2 N1 N2
   have HF := hid (show V = Op.bytesLess L.toList R.toList by rw [HA.out]; rfl)
   clear HA
   go_wp2_with fail
   go_ret
   exact ⟨by rw [HF.out]; rfl, HX2.out⟩
  ·have HN := hid (N2.out hq)
   rw [decide_eq_false hq] at E2
   clear hq
   go_wp2_with fail
   refine (CN.out _ HX2.out).mono ?_
   rintro e w9 ⟨rfl, hb9⟩
   have HX9 := hid (bb HX2.out hb9)
   clear hb9
   have HA := A.out _ _ HM.out HN.out
   simp only [e_lit] at HA
   have HA := hid HA
   generalize (meanF ts k Q).getD ⟨#[]⟩ = N at *
   clear A HM HN CM CN M1 M2 N1 N2
   cases c1 : Op.bytesLess [] N.toList with
   | true =>
    have HF := hid (show V = true by rw [HA.out, c1]; rfl)
    go_wp2_with fail
    go_ret
    exact ⟨by rw [HF.out]; rfl, HX9.out⟩
   | false =>
    cases c2 : ([] == N.toList) with
    | false =>
     have HF := hid (show V = false by rw [HA.out, c1, c2]; rfl)
     go_wp2_with fail
     go_ret
     exact ⟨by rw [HF.out]; rfl, HX9.out⟩
    | true =>
     have HF := hid (show V = Op.bytesLess L.toList R.toList by rw [HA.out, c1, c2]; rfl)
     go_wp2_with fail
     go_ret
     exact ⟨by rw [HF.out]; rfl, HX9.out⟩
 ·have HM := hid (M2.out hp)
  rw [decide_eq_false hp] at E1
  clear hp
  go_wp2_with fail
  refine (CM.out _ HX2.out).mono ?_
  rintro e w3 ⟨rfl, hb3⟩
  have HX3 := hid (bb HX2.out hb3)
  clear hb3
  by_cases hq : Q.size = 0
  ·have HN := hid (N1.out hq)
   rw [decide_eq_true hq] at E2
   clear hq
   have HA := A.out _ _ HM.out HN.out
   simp only [e_lit] at HA
   generalize (meanF ts k P).getD ⟨#[]⟩ = M at *
   clear A HM HN CM CN M1 M2 N1 N2
   have c1 : Op.bytesLess M.toList [] = false := by cases M.toList <;> rfl
   have c3 : (M.toList == []) = M.toList.isEmpty := by cases M.toList <;> rfl
   rw [c1, c3] at HA
   cases c2 : M.toList.isEmpty with
   | false =>
    have HF := hid (show V = false by rw [HA, c2]; rfl)
    clear HA
    go_wp2_with fail
    go_ret
    exact ⟨by rw [HF.out]; rfl, HX3.out⟩
   | true =>
    have HF := hid (show V = Op.bytesLess L.toList R.toList by rw [HA, c2]; rfl)
    clear HA
    go_wp2_with fail
    go_ret
    exact ⟨by rw [HF.out]; rfl, HX3.out⟩
  ·have HN := hid (N2.out hq)
   rw [decide_eq_false hq] at E2
   clear hq
   go_wp2_with fail
   refine (CN.out _ HX3.out).mono ?_
   rintro e w9 ⟨rfl, hb9⟩
   have HX9 := hid (bb HX3.out hb9)
   clear hb9
   have HA := A.out _ _ HM.out HN.out
   have HA := hid HA
   generalize (meanF ts k P).getD ⟨#[]⟩ = M at *
   generalize (meanF ts k Q).getD ⟨#[]⟩ = N at *
   clear A HM HN CM CN M1 M2 N1 N2
   cases c1 : Op.bytesLess M.toList N.toList with
   | true =>
    have HF := hid (show V = true by rw [HA.out, c1]; rfl)
    go_wp2_with fail
    go_ret
    exact ⟨by rw [HF.out]; rfl, HX9.out⟩
   | false =>
    cases c2 : (M.toList == N.toList) with
    | false =>
     have HF := hid (show V = false by rw [HA.out, c1, c2]; rfl)
     go_wp2_with fail
     go_ret
     exact ⟨by rw [HF.out]; rfl, HX9.out⟩
    | true =>
     have HF := hid (show V = Op.bytesLess L.toList R.toList by rw [HA.out, c1, c2]; rfl)
     go_wp2_with fail
     go_ret
     exact ⟨by rw [HF.out]; rfl, HX9.out⟩

end Go.Proofs.YtoioiddjbanahaaGreatDoor
