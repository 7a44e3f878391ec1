/- Families (plain mathematics of promise 8): a kid ends where the next one begins, the first stands right behind, the last ends where its parent ends. Contracts of the specification's l13Says, l13Refers. What the program asks of a seal's attrs and of its parent is what the document says (mathematics alone). -/
import Derived.Test.YtkejmifkjgpdjaaGreatM17
import Derived.Test.YtkejmifkjgpdjaaGreatM7
import Derived.Test.YtkejmifkjgpdjaaGreatM16
import Derived.OwnWalk
namespace Go.Proofs.YtkejmifkjgpdjaaGreat
set_option linter.unusedVariables false

theorem TreeP.up {ts : List Tk} (h : TreeP ts) (j : Nat) (hj : j < ts.length) : UpOk ts j := (h.2.2.2.2 j hj).2.1

theorem TreeP.linked {ts : List Tk} (h : TreeP ts) (m : Nat) (hm : m < ts.length) : Linked ts (chainF ts (m + 1)) ∧ ∀ p ∈ chainF ts (m + 1), p < m + 1 := linked_all m (fun j hj => h.up j (by omega))

theorem endN_in {ts : List Tk} {k e : Nat} (hk : k < ts.length) (he : k < e) (h : e < endN ts k) : (k : Int) ≤ parI ts e := by
  by_cases q : (k : Int) ≤ parI ts e
  · exact q
  · have h2 := endN_le hk
    have := endN_min hk he (fun _ => by omega) (by omega)
    omega

theorem mem_drop {ts : List Tk} : ∀ {c : List Nat}, Linked ts c → ∀ p q, p ∈ c → q ∈ c → q ≤ p → q ∈ c.dropWhile (fun (j : Nat) => !decide ((j : Int) = (p : Int)))
  | [], h, p, q, hp, _, _ => absurd hp (by simp)
  | [x], h, p, q, hp, hq, _ => by
    rw [List.mem_singleton] at hp hq
    subst hp hq
    simp
  | x :: y :: r, h, p, q, hp, hq, hle => by
    by_cases e : x = p
    · subst e
      simpa using hq
    · have hp' : p ∈ y :: r := by
        rcases List.mem_cons.1 hp with h' | h'
        · exact absurd h'.symm e
        · exact h'
      have h1 := Linked.le h.tail p hp'
      have h2 := h.2.1
      have hq' : q ∈ y :: r := by
        rcases List.mem_cons.1 hq with h' | h'
        · omega
        · exact h'
      rw [List.dropWhile_cons, if_pos (by simp; omega)]
      exact mem_drop h.tail p q hp' hq' hle

theorem below_par {ts : List Tk} : ∀ {l : List Nat}, Linked ts l → ∀ c q, c ∈ l → q ∈ l → q < c → (q : Int) ≤ parI ts c
  | [], h, c, q, hc, _, _ => absurd hc (by simp)
  | [x], h, c, q, hc, hq, hlt => by
    rw [List.mem_singleton] at hc hq
    omega
  | x :: y :: r, h, c, q, hc, hq, hlt => by
    by_cases e : c = x
    · subst e
      have hq' : q ∈ y :: r := by
        rcases List.mem_cons.1 hq with h' | h'
        · omega
        · exact h'
      have h1 := Linked.le h.tail q hq'
      rw [h.1]
      omega
    · have hc' : c ∈ y :: r := by
        rcases List.mem_cons.1 hc with h' | h'
        · exact absurd h' e
        · exact h'
      have h1 := Linked.le h.tail c hc'
      have h2 := h.2.1
      have hq' : q ∈ y :: r := by
        rcases List.mem_cons.1 hq with h' | h'
        · omega
        · exact h'
      exact below_par h.tail c q hc' hq' hlt

/-- All that a node has lies in it. -/
theorem in_chain {ts : List Tk} (h : TreeP ts) {c : Nat} (hc : c < ts.length) : ∀ d, c + d < endN ts c → c ∈ chainF ts (c + d + 1)
  | 0, _ => by
    obtain ⟨r, e⟩ := chain_head ts c
    rw [Nat.add_zero, e]
    exact List.mem_cons_self ..
  | d + 1, hd => by
    have hle := endN_le hc
    have ih := in_chain h hc d (by omega)
    have hpar := endN_in hc (show c < c + (d + 1) by omega) hd
    obtain ⟨hL, _⟩ := h.linked (c + d) (by omega)
    rcases h.up (c + (d + 1)) (by omega) with h0 | ⟨p, hp, e, _⟩
    · omega
    · rw [← e] at hpar
      have hm := mem_drop hL p c hp ih (by omega)
      show c ∈ (c + (d + 1)) :: (chainF ts (c + (d + 1))).dropWhile (fun (j : Nat) => !decide ((j : Int) = parI ts (c + (d + 1))))
      rw [← e]
      exact List.mem_cons_of_mem _ hm

/-- Where a kid ends and more is to come, the next one begins. -/
theorem next_kid {ts : List Tk} (h : TreeP ts) {k c : Nat} (hk : k < ts.length) (hc : k < c) (hce : c < endN ts k) (hp : parI ts c = (k : Int)) (hj : endN ts c < endN ts k) : parI ts (endN ts c) = (k : Int) := by
  have hle := endN_le hk
  have hcl := endN_le (ts := ts) (k := c) (by omega)
  have hlow := endN_in hk (show k < endN ts c by omega) hj
  have hup : parI ts (endN ts c) < (c : Int) := by
    rcases endN_stop (ts := ts) (k := c) (by omega) with h' | h'
    · omega
    · exact h'
  have hin := in_chain h (show c < ts.length by omega) (endN ts c - c - 1) (by omega)
  rw [show c + (endN ts c - c - 1) + 1 = endN ts c by omega] at hin
  have hL := (h.linked (endN ts c - 1) (by omega)).1
  rw [show endN ts c - 1 + 1 = endN ts c by omega] at hL
  rcases h.up (endN ts c) (by omega) with h0 | ⟨p, hpm, e, _⟩
  · omega
  · rw [← e] at hlow hup ⊢
    have := below_par hL c p hin hpm (by omega)
    rw [hp] at this
    omega

theorem first_kid {ts : List Tk} (h : TreeP ts) {k : Nat} (hk : k < ts.length) (he : k + 1 < endN ts k) : parI ts (k + 1) = (k : Int) := by
  have hle := endN_le hk
  have hlow := endN_in hk (show k < k + 1 by omega) he
  rcases h.up (k + 1) (by omega) with h0 | ⟨p, hpm, e, _⟩
  · omega
  · have := (h.linked k hk).2 p hpm
    rw [← e] at hlow ⊢
    omega

/-- Behind its end nothing is its kid. -/
theorem out_chain {ts : List Tk} (h : TreeP ts) {k : Nat} (hk : k < ts.length) : ∀ d, endN ts k + d < ts.length → ¬ k ∈ chainF ts (endN ts k + d + 1)
  | 0, hd => by
    have hle := endN_le hk
    intro hm
    have hup : parI ts (endN ts k) < (k : Int) := by
      rcases endN_stop hk with h' | h'
      · omega
      · exact h'
    have hL := h.linked (endN ts k - 1) (by omega)
    rw [show endN ts k - 1 + 1 = endN ts k by omega] at hL
    obtain ⟨hl2, p, r, e, ep, _⟩ := linked_next hL.1 (h.up (endN ts k) (by omega)) (by omega) hL.2
    rw [Nat.add_zero, e] at hm
    rw [e] at hl2
    rcases List.mem_cons.1 hm with h' | h'
    · omega
    · have := Linked.le hl2.tail k h'
      omega
  | d + 1, hd => by
    have hle := endN_le hk
    have ih := out_chain h hk d (by omega)
    intro hm
    have hm : k ∈ (endN ts k + (d + 1)) :: (chainF ts (endN ts k + d + 1)).dropWhile (fun (j : Nat) => !decide ((j : Int) = parI ts (endN ts k + (d + 1)))) := hm
    rcases List.mem_cons.1 hm with h' | h'
    · omega
    · exact ih ((List.dropWhile_sublist _).mem h')

theorem no_kid {ts : List Tk} (h : TreeP ts) {k i : Nat} (hk : k < ts.length) (hi : endN ts k ≤ i) (hn : i < ts.length) : ¬ parI ts i = (k : Int) := by
  have hle := endN_le hk
  intro e
  rcases Nat.lt_or_eq_of_le hi with h' | h'
  · rcases h.up i hn with h0 | ⟨p, hpm, ep, _⟩
    · omega
    · have : p = k := by omega
      subst this
      have := out_chain h hk (i - endN ts p - 1) (by omega)
      rw [show endN ts p + (i - endN ts p - 1) + 1 = i by omega] at this
      exact this hpm
  · subst h'
    rcases endN_stop hk with h' | h'
    · omega
    · omega

/-- Kids from e on. -/
def kidsFrom (ts : List Tk) (k e E : Nat) : List Nat := (List.range' e (E - e)).filter fun i => decide (parI ts i = (k : Int))

theorem kidsFrom_split {ts : List Tk} {k a b c : Nat} (h1 : a ≤ b) (h2 : b ≤ c) : kidsFrom ts k a c = kidsFrom ts k a b ++ kidsFrom ts k b c := by
  unfold kidsFrom
  rw [← List.filter_append]
  congr 1
  have := List.range'_append_1 (s := a) (m := b - a) (n := c - b)
  rw [show a + (b - a) = b by omega, show b - a + (c - b) = c - a by omega] at this
  exact this.symm

theorem kidsFrom_none {ts : List Tk} {k a b : Nat} (h : ∀ i, a ≤ i → i < b → ¬ parI ts i = (k : Int)) : kidsFrom ts k a b = [] := by
  unfold kidsFrom
  rw [List.filter_eq_nil_iff]
  intro i hi
  rw [List.mem_range'_1] at hi
  simpa using h i hi.1 (by omega)

theorem kidsN_from {ts : List Tk} {k : Nat} (hk : k < ts.length) : kidsN ts k = kidsFrom ts k (k + 1) ts.length := by
  unfold kidsN kidsTo kidsFrom
  have e : List.range ts.length = List.range' 0 (k + 1) ++ List.range' (k + 1) (ts.length - (k + 1)) := by
    have := List.range'_append_1 (s := 0) (m := k + 1) (n := ts.length - (k + 1))
    rw [Nat.zero_add, show k + 1 + (ts.length - (k + 1)) = ts.length by omega] at this
    rw [this, List.range_eq_range']
  rw [e, List.filter_append]
  have e1 : (List.range' 0 (k + 1)).filter (fun i => decide (k < i) && decide (parI ts i = (k : Int))) = [] := by
    rw [List.filter_eq_nil_iff]
    intro i hi
    rw [List.mem_range'_1] at hi
    simp
    omega
  rw [e1, List.nil_append]
  refine List.filter_congr fun i hi => ?_
  rw [List.mem_range'_1] at hi
  have : decide (k < i) = true := decide_eq_true (by omega)
  rw [this, Bool.true_and]

/-- Where the i-th kid begins, or all ends. -/
structure FamAt (ts : List Tk) (k i e : Nat) : Prop where
  lo : k < e
  hi : e ≤ endN ts k
  kid : e < endN ts k → parI ts e = (k : Int)
  rest : kidsFrom ts k e (endN ts k) = (kidsN ts k).drop i

theorem fam_start {ts : List Tk} (h : TreeP ts) {k : Nat} (hk : k < ts.length) : FamAt ts k 0 (k + 1) := by
  have hle := endN_le hk
  refine ⟨by omega, by omega, fun he => first_kid h hk he, ?_⟩
  rw [List.drop_zero, kidsN_from hk, kidsFrom_split (show k + 1 ≤ endN ts k by omega) hle.2, kidsFrom_none (a := endN ts k) (fun i h1 h2 => no_kid h hk h1 h2), List.append_nil]

theorem fam_one {ts : List Tk} (h : TreeP ts) {k e : Nat} (hk : k < ts.length) (h1 : k < e) (h2 : e < endN ts k) (h3 : parI ts e = (k : Int)) : kidsFrom ts k e (endN ts k) = e :: kidsFrom ts k (endN ts e) (endN ts k) := by
  have hle := endN_le hk
  have hel := endN_le (ts := ts) (k := e) (by omega)
  have hke := (kid_end hk h1 h2).1
  rw [kidsFrom_split (show e ≤ e + 1 by omega) (show e + 1 ≤ endN ts k by omega), kidsFrom_split (show e + 1 ≤ endN ts e by omega) hke]
  have e1 : kidsFrom ts k e (e + 1) = [e] := by
    unfold kidsFrom
    rw [show e + 1 - e = 1 by omega]
    simp [h3]
  have e2 : kidsFrom ts k (e + 1) (endN ts e) = [] := kidsFrom_none (fun i g1 g2 => by
    have := endN_in (ts := ts) (k := e) (by omega) (show e < i by omega) g2
    omega)
  rw [e1, e2, List.nil_append]
  rfl

theorem FamAt.step {ts : List Tk} (h : TreeP ts) {k i e : Nat} (hk : k < ts.length) (f : FamAt ts k i e) (hi : i < (kidsN ts k).length) :
    (kidsN ts k)[i] = e ∧ e < endN ts k ∧ parI ts e = (k : Int) ∧ FamAt ts k (i + 1) (endN ts e) := by
  have hle := endN_le hk
  have hr := f.rest
  rw [List.drop_eq_getElem_cons hi] at hr
  have hlt : e < endN ts k := by
    rcases Nat.lt_or_eq_of_le f.hi with h' | h'
    · exact h'
    · rw [h', kidsFrom_none (fun i g1 g2 => by omega)] at hr
      cases hr
  have hp := f.kid hlt
  rw [fam_one h hk f.lo hlt hp] at hr
  injection hr with e1 e2
  have hel := endN_le (ts := ts) (k := e) (by omega)
  exact ⟨e1.symm, hlt, hp, ⟨by have := f.lo; omega, (kid_end hk f.lo hlt).1, fun hj => next_kid h hk f.lo hlt hp hj, e2⟩⟩

theorem FamAt.fin {ts : List Tk} (h : TreeP ts) {k i e : Nat} (hk : k < ts.length) (f : FamAt ts k i e) (hi : i = (kidsN ts k).length) : e = endN ts k := by
  rcases Nat.lt_or_eq_of_le f.hi with h' | h'
  · have hr := f.rest
    rw [fam_one h hk f.lo h' (f.kid h'), hi, List.drop_length] at hr
    cases hr
  · exact h'

end Go.Proofs.YtkejmifkjgpdjaaGreat

namespace Go.Proofs.YtkejmifkjgpdjaaGreat
open Go.RowKit
set_option linter.unusedVariables false
set_option linter.unusedSimpArgs false

/-- What a seal refers to, its sum, its sign. -/
def refF (l : List At) : ByteArray := (valF l refS).getD ByteArray.empty
def sumF (l : List At) : ByteArray := (valF l sumS).getD ByteArray.empty
def sgnF (l : List At) : Int := (numOf ((valF l signS).getD ByteArray.empty).data.toList).1

theorem val_sz {n : Nat} {l : List At} (hz : AtSz n l) (s : ByteArray) : ((valF l s).getD ByteArray.empty).size ≤ n := by
  cases h : valF l s with
  | none => exact Nat.zero_le _
  | some v =>
    obtain ⟨x, hx, rfl⟩ := valF_mem h
    exact (hz _ hx).2

/-- ValueIn at a node of the row. -/
theorem cValAtS {w : World} {a : Option Addr} {ts : List Tk} (hR : TkRow w a ts) (hz : TksSz 1048576 ts) {k : Nat} (hk : k < ts.length) :
    ∃ b o aa na ca, a = some ⟨b, o, none⟩ ∧ w.cell? ⟨b, o + k * 4 + 2, none⟩ = some (.slice aa na ca) ∧ ∀ s : ByteArray, s.size ≤ 1048576 → (Calls Tryz.prog 35 #[.slice aa na ca, .string s] w fun e w' => e = .returned (.tuple #[.string ((valF (atsJ ts k) s).getD ByteArray.empty), .bool (valF (atsJ ts k) s).isSome]) ∧ w' = w) := by
  obtain ⟨b, o, aa, ca, e, c2, hA⟩ := ats_row hR hk
  have h3 := hz _ (List.getElem_mem hk)
  have e2 : atsJ ts k = ts[k].attrs := by unfold atsJ; rw [List.getElem?_eq_getElem hk]
  rw [e2]
  exact ⟨b, o, aa, _, ca, e, c2, fun s hs => cValueInS aa ca ts[k].attrs s w hA h3.2.2.1 h3.2.1 hs⟩

theorem ats_sz {ts : List Tk} (hz : TksSz 1048576 ts) {k : Nat} (hk : k < ts.length) : AtSz 1048576 (atsJ ts k) := by
  have e2 : atsJ ts k = ts[k].attrs := by unfold atsJ; rw [List.getElem?_eq_getElem hk]
  rw [e2]
  exact (hz _ (List.getElem_mem hk)).2.2.1

set_option maxHeartbeats 4000000 in
theorem c_spec_l13Says (a : Option Addr) (cap : Nat) (ts : List Tk) (k : Nat) (w : World) (hR : TkRow w a ts) (hk : k < ts.length) (hn : ts.length ≤ 1048576) (hz : TksSz 1048576 ts) :
    Calls Tryz.prog 18 #[.slice a ts.length cap, .int .i64 (k : Int)] w fun e w' => e = .returned (.tuple #[.string (refF (atsJ ts k)), .string (sumF (atsJ ts k)), .int .i64 (sgnF (atsJ ts k))]) ∧ w' = w := by
  obtain ⟨b, o, aa, na, ca, rfl, c2, hc⟩ := cValAtS hR hz hk
  have CR := hid (hc refS (by decide))
  have CS := hid (hc sumS (by decide))
  have CG := hid (hc signS (by decide))
  have CN := hid (fun wx => cNumS ((valF (atsJ ts k) signS).getD ByteArray.empty) wx (val_sz (ats_sz hz hk) _))
  have hkn : (k : Int) < (ts.length : Int) := by omega
  unfold refF sumF sgnF
  clear hc hR hz
  generalize (valF (atsJ ts k) refS).getD ByteArray.empty = R at *
  generalize (valF (atsJ ts k) refS).isSome = R1 at *
  generalize (valF (atsJ ts k) sumS).getD ByteArray.empty = S at *
  generalize (valF (atsJ ts k) sumS).isSome = S1 at *
  generalize (valF (atsJ ts k) signS).getD ByteArray.empty = G at *
  generalize (valF (atsJ ts k) signS).isSome = G1 at *
  generalize (numOf G.data.toList).1 = X at *
  generalize (numOf G.data.toList).2 = X1 at *
  generalize ts.length = n at *
  go_enter Tryz.func18, Tryz.ntmps18
  go_wp2_with fail
  refine CR.out.mono ?_
  rintro e w1 ⟨rfl, rfl⟩
  clear CR
  go_wp2_with fail
  refine CS.out.mono ?_
  rintro e w1 ⟨rfl, rfl⟩
  clear CS
  go_wp2_with fail
  refine CG.out.mono ?_
  rintro e w1 ⟨rfl, rfl⟩
  clear CG
  go_wp2_with fail
  refine (CN.out _).mono ?_
  rintro e w1 ⟨rfl, rfl⟩
  clear CN
  go_wp2_with fail
  go_ret3
  exact ⟨rfl, rfl⟩

/-- Its parent has the Id that it refers to. -/
noncomputable def refersN (ts : List Tk) (k : Nat) : Bool := open Classical in decide (0 ≤ parI ts k) && decide (idAt ts (parI ts k).toNat = some (refF (atsJ ts k)))

theorem up_lt {ts : List Tk} (hT : TreeP ts) {k p : Nat} (hk : k < ts.length) (hp : parI ts k = (p : Int)) : p < k := by
  rcases Nat.eq_zero_or_pos k with h0 | h0
  · subst h0
    rw [hT.2.2.1] at hp
    omega
  · rcases (hT.2.2.2.2 k hk).2.1 with h' | ⟨q, hm, e, _⟩
    · omega
    · obtain ⟨j, rfl⟩ : ∃ j, k = j + 1 := ⟨k - 1, by omega⟩
      have := (linked_all j (fun m hm => (hT.2.2.2.2 m (by omega)).2.1)).2 q hm
      omega

set_option maxHeartbeats 4000000 in
theorem c_spec_l13Refers (a : Option Addr) (cap : Nat) (ts : List Tk) (k : Nat) (w : World) (hR : TkRow w a ts) (hT : TreeP ts) (hk : k < ts.length) (hn : ts.length ≤ 1048576) (hz : TksSz 1048576 ts) :
    Calls Tryz.prog 17 #[.slice a ts.length cap, .int .i64 (k : Int)] w fun e w' => e = .returned (.bool (refersN ts k)) ∧ w' = w := by
  have C := hid (c_spec_l13Says a cap ts k w hR hk hn hz)
  obtain ⟨b, o, ea, c0, -⟩ := hR.kindAt k hk
  have hkn : (k : Int) < (ts.length : Int) := by omega
  by_cases h0 : parI ts k < 0
  · have HE := hid (show refersN ts k = false by unfold refersN; rw [decide_eq_false (by omega)]; rfl)
    rw [HE.out]
    subst ea
    have h1 : decide (parI ts k < 0) = true := decide_eq_true h0
    clear hR hz HE hT h0
    generalize parI ts k = P at *
    generalize refF (atsJ ts k) = R at *
    generalize sumF (atsJ ts k) = S at *
    generalize sgnF (atsJ ts k) = G at *
    generalize ts.length = n at *
    go_enter Tryz.func17, Tryz.ntmps17
    go_wp2_with fail
    refine C.out.mono ?_
    rintro e w1 ⟨rfl, rfl⟩
    clear C
    go_wp2_with fail
    go_ret
    exact ⟨rfl, rfl⟩
  · obtain ⟨p, hp⟩ : ∃ p : Nat, parI ts k = p := ⟨(parI ts k).toNat, by omega⟩
    have hpk := up_lt hT hk hp
    have hpn : (p : Int) < (ts.length : Int) := by omega
    have HE := hid (show refersN ts k = (open Classical in decide (idAt ts p = some (refF (atsJ ts k)))) by unfold refersN; rw [hp, decide_eq_true (by omega)]; rfl)
    rw [HE.out]
    obtain ⟨b', o', aa, na, ca, ea', c2, hcall⟩ := cIdAtS hR hn hz (show p < ts.length by omega)
    have CI := hid hcall
    subst ea
    obtain ⟨rfl, rfl⟩ : b = b' ∧ o = o' := by cases ea'; exact ⟨rfl, rfl⟩
    rw [hp] at c0
    have hs := str_beq ((idAt ts p).getD ByteArray.empty) (refF (atsJ ts k))
    clear hR hz HE hT h0 ea' hcall hp
    obtain ⟨R, hRR⟩ : ∃ R, refF (atsJ ts k) = R := ⟨_, rfl⟩
    rw [hRR] at C hs ⊢
    clear hRR
    generalize sumF (atsJ ts k) = S at *
    generalize sgnF (atsJ ts k) = G at *
    generalize ts.length = n at *
    cases hv : idAt ts p with
    | none =>
      rw [hv] at CI
      clear hs hv
      go_enter Tryz.func17, Tryz.ntmps17
      go_wp2_with fail
      refine C.out.mono ?_
      rintro e w1 ⟨rfl, rfl⟩
      clear C
      go_wp2_with fail
      refine CI.out.mono ?_
      rintro e w1 ⟨rfl, rfl⟩
      clear CI
      go_wp2_with fail
      go_ret
      exact ⟨by simp, rfl⟩
    | some v =>
      rw [hv] at CI hs
      have e : (open Classical in decide (some v = some R)) = decide (v = R) := by
        by_cases q : v = R
        · subst q; simp
        · rw [decide_eq_false q]; simp [q]
      rw [e]
      simp only [Option.getD_some] at hs CI
      generalize decide (v = R) = Y at *
      clear hv e
      go_enter Tryz.func17, Tryz.ntmps17
      go_wp2_with fail
      refine C.out.mono ?_
      rintro e w1 ⟨rfl, rfl⟩
      clear C
      go_wp2_with fail
      refine CI.out.mono ?_
      rintro e w1 ⟨rfl, rfl⟩
      clear CI
      go_wp2_with fail
      go_ret
      exact ⟨rfl, rfl⟩

end Go.Proofs.YtkejmifkjgpdjaaGreat

namespace Go.Proofs.YtkejmifkjgpdjaaGreat
open Go.RowKit
set_option linter.unusedVariables false
set_option linter.unusedSimpArgs false

/-- Its name is one of the three. -/
noncomputable def justN (x : At) : Bool := open Classical in decide (x.name = refS) || (decide (x.name = sumS) || decide (x.name = signS))

noncomputable def justL (l : List At) : Bool := (ownA l).all justN && decide ((ownA l).length = 3)

theorem valF_cons (y : At) (l : List At) (s : ByteArray) : valF (y :: l) s = if y.name = s then some y.value else valF l s := by
  unfold valF
  rw [List.find?_cons]
  by_cases h : y.name = s
  · rw [if_pos h, decide_eq_true h]
    rfl
  · rw [if_neg h, decide_eq_false h]

theorem valF_own {l : List At} (hd : (l.map (·.name)).Nodup) {x : At} (hx : x ∈ l) : valF l x.name = some x.value := by
  induction l with
  | nil => cases hx
  | cons y l ih =>
    rw [List.map_cons, List.nodup_cons] at hd
    rw [valF_cons]
    rcases List.mem_cons.1 hx with h | hm
    · rw [if_pos (by rw [h]), h]
    · rw [if_neg, ih hd.2 hm]
      intro e
      exact hd.1 (by rw [e]; exact List.mem_map_of_mem hm)

theorem three_of {a b c r s g : ByteArray} (ha : a = r ∨ a = s ∨ a = g) (hb : b = r ∨ b = s ∨ b = g) (hc : c = r ∨ c = s ∨ c = g) (h1 : ¬ a = b) (h2 : ¬ a = c) (h3 : ¬ b = c) : (a = s ∨ b = s ∨ c = s) ∧ (a = g ∨ b = g ∨ c = g) := by
  rcases ha with ha | ha | ha <;> rcases hb with hb | hb | hb <;> rcases hc with hc | hc | hc <;> first
    | exact absurd (ha.trans hb.symm) h1
    | exact absurd (ha.trans hc.symm) h2
    | exact absurd (hb.trans hc.symm) h3
    | exact ⟨Or.inl ha, Or.inr (Or.inl hb)⟩
    | exact ⟨Or.inl ha, Or.inr (Or.inr hc)⟩
    | exact ⟨Or.inr (Or.inl hb), Or.inl ha⟩
    | exact ⟨Or.inr (Or.inl hb), Or.inr (Or.inr hc)⟩
    | exact ⟨Or.inr (Or.inr hc), Or.inl ha⟩
    | exact ⟨Or.inr (Or.inr hc), Or.inr (Or.inl hb)⟩

theorem just_is {x : At} : justN x = true ↔ x.name = refS ∨ x.name = sumS ∨ x.name = signS := by
  unfold justN
  simp only [Bool.or_eq_true, decide_eq_true_eq]

theorem ownA_sub {l : List At} {x : At} (h : x ∈ ownA l) : x ∈ l := (List.mem_filter.1 h).1

theorem own_nodup {l : List At} (hd : (l.map (·.name)).Nodup) : ((ownA l).map (·.name)).Nodup := (List.Sublist.map _ List.filter_sublist).nodup hd

/-- Where the three stand, each of them does. -/
theorem just_has {l : List At} (hd : (l.map (·.name)).Nodup) (h : justL l = true) : (∃ x ∈ ownA l, x.name = sumS) ∧ ∃ x ∈ ownA l, x.name = signS := by
  unfold justL at h
  rw [Bool.and_eq_true, decide_eq_true_eq, List.all_eq_true] at h
  have hn := own_nodup hd
  obtain ⟨h1, h2⟩ := h
  generalize ownA l = o at *
  match o, h2 with
  | [a, b, c], _ =>
    simp only [List.map_cons, List.map_nil, List.nodup_cons, List.mem_cons, List.not_mem_nil, or_false, not_or] at hn
    obtain ⟨hs, hg⟩ := three_of (just_is.1 (h1 a (by simp))) (just_is.1 (h1 b (by simp))) (just_is.1 (h1 c (by simp))) hn.1.1 hn.1.2 hn.2.1
    refine ⟨?_, ?_⟩
    · rcases hs with e | e | e
      · exact ⟨a, by simp, e⟩
      · exact ⟨b, by simp, e⟩
      · exact ⟨c, by simp, e⟩
    · rcases hg with e | e | e
      · exact ⟨a, by simp, e⟩
      · exact ⟨b, by simp, e⟩
      · exact ⟨c, by simp, e⟩

/-- What the program asks, in its order. -/
noncomputable def sealJ (l : List At) : Bool := justL l && (tenB ((valF l sumS).getD ByteArray.empty) && tenB ((valF l signS).getD ByteArray.empty))

theorem refS_sum : ¬ refS = sumS := by decide
theorem refS_sign : ¬ refS = signS := by decide
theorem sumS_sign : ¬ sumS = signS := by decide

theorem seal_just {l : List At} (hd : (l.map (·.name)).Nodup) : sealL l = sealJ l := by
  rw [Bool.eq_iff_iff]
  constructor
  · intro h
    unfold sealL at h
    rw [Bool.and_eq_true, List.all_eq_true] at h
    have hj : justL l = true := by
      unfold justL
      rw [Bool.and_eq_true, List.all_eq_true]
      refine ⟨fun x hx => ?_, h.2⟩
      have hs := h.1 x hx
      unfold sealAt at hs
      rw [just_is]
      simp only [Bool.or_eq_true, Bool.and_eq_true, decide_eq_true_eq] at hs
      rcases hs with e | ⟨e | e, _⟩
      · exact Or.inl e
      · exact Or.inr (Or.inl e)
      · exact Or.inr (Or.inr e)
    obtain ⟨⟨x, hx, ex⟩, ⟨y, hy, ey⟩⟩ := just_has hd hj
    have vx := valF_own hd (ownA_sub hx)
    have vy := valF_own hd (ownA_sub hy)
    have sx := h.1 x hx
    have sy := h.1 y hy
    unfold sealAt at sx sy
    rw [ex] at vx sx
    rw [ey] at vy sy
    simp only [Bool.or_eq_true, Bool.and_eq_true, decide_eq_true_eq] at sx sy
    unfold sealJ
    rw [hj, vx, vy, Bool.true_and, Bool.and_eq_true]
    refine ⟨?_, ?_⟩
    · rcases sx with e | ⟨_, e⟩
      · exact absurd e.symm refS_sum
      · exact e
    · rcases sy with e | ⟨_, e⟩
      · exact absurd e.symm refS_sign
      · exact e
  · intro h
    unfold sealJ at h
    rw [Bool.and_eq_true, Bool.and_eq_true] at h
    obtain ⟨hj, h1, h2⟩ := h
    unfold justL at hj
    rw [Bool.and_eq_true, List.all_eq_true] at hj
    unfold sealL
    rw [Bool.and_eq_true, List.all_eq_true]
    refine ⟨fun x hx => ?_, hj.2⟩
    have vx := valF_own hd (ownA_sub hx)
    unfold sealAt
    simp only [Bool.or_eq_true, Bool.and_eq_true, decide_eq_true_eq]
    rcases just_is.1 (hj.1 x hx) with e | e | e
    · exact Or.inl e
    · rw [e] at vx
      rw [vx] at h1
      exact Or.inr ⟨Or.inl e, h1⟩
    · rw [e] at vx
      rw [vx] at h2
      exact Or.inr ⟨Or.inr e, h2⟩

theorem names_nd {ts : List Tk} (hT : TreeP ts) (k : Nat) : ((atsJ ts k).map (·.name)).Nodup := by
  unfold atsJ
  cases e : ts[k]? with
  | none => exact List.nodup_nil
  | some t =>
    show (t.attrs.map (·.name)).Nodup
    obtain ⟨hk, et⟩ := List.getElem?_eq_some_iff.1 e
    obtain ⟨_, hb⟩ := (hT.2.2.2.2 k hk).1
    rw [et] at hb
    unfold nodeB at hb
    split at hb
    · rw [Bool.and_eq_true, decide_eq_true_eq] at hb
      rw [List.eq_nil_of_length_eq_zero hb.1]
      exact List.nodup_nil
    · rw [Bool.and_eq_true, Bool.and_eq_true] at hb
      have ho : AttrsOk t.attrs := by
        by_cases q : AttrsOk t.attrs
        · exact q
        · rw [attrsB_f q] at hb
          cases hb.2.1
      unfold AttrsOk AtsOk at ho
      have : t.attrs.Pairwise fun a b => ¬ a.name = b.name := List.pairwise_iff_getElem.2 fun i j hi hj hij => ho.2.2 j i hj hij hj
      exact List.pairwise_map.2 this

/-- The parent has the Id that is told, which is not empty. -/
theorem refers_is {ts : List Tk} (hI : idsB ts = true) (hT : TreeP ts) {k : Nat} (hk : k < ts.length) : refersN ts k = (!decide ((refF (atsJ ts k)).size = 0) && decide (idI ts (parI ts k) = refF (atsJ ts k))) := by
  unfold refersN idI
  have hl : parI ts k < ts.length := by
    by_cases h0 : 0 ≤ parI ts k
    · have := up_lt hT hk (p := (parI ts k).toNat) (by omega)
      omega
    · omega
  have hP : IdsP ts ts.length := by
    have h1 := hI
    unfold idsB at h1
    rw [Bool.and_eq_true] at h1
    exact @of_decide_eq_true _ (Classical.propDecidable _) h1.1
  rw [Bool.eq_iff_iff]
  simp only [Bool.and_eq_true, decide_eq_true_eq, Bool.not_eq_true', decide_eq_false_iff_not]
  constructor
  · rintro ⟨h0, h1⟩
    have ho := hP.1 _ (mem_idsTo.2 ⟨(parI ts k).toNat, by omega, h1⟩)
    rw [if_pos ⟨hI, h0, hl⟩, h1]
    refine ⟨fun e => ?_, rfl⟩
    unfold idOk at ho
    simp [e] at ho
  · rintro ⟨h0, h1⟩
    by_cases q : 0 ≤ parI ts k
    · rw [if_pos ⟨hI, q, hl⟩] at h1
      refine ⟨q, ?_⟩
      cases e : idAt ts (parI ts k).toNat with
      | none =>
        rw [e] at h1
        rw [← h1] at h0
        exact absurd rfl h0
      | some v =>
        rw [e] at h1
        rw [← h1]
        rfl
    · rw [if_neg (fun h => q h.2.1)] at h1
      rw [← h1] at h0
      exact absurd rfl h0

theorem no_kids {ts : List Tk} (hT : TreeP ts) {k : Nat} (hk : k < ts.length) : decide ((kidsN ts k).length = 0) = decide (endN ts k = k + 1) := by
  have he := endN_le hk
  have key : (kidsN ts k).length = 0 ↔ endN ts k = k + 1 := by
    constructor
    · intro h
      by_cases q : endN ts k = k + 1
      · exact q
      · have hp := first_kid hT hk (by omega)
        have hm : k + 1 ∈ kidsN ts k := by
          unfold kidsN kidsTo
          exact List.mem_filter.2 ⟨List.mem_range.2 (by omega), by rw [decide_eq_true (Nat.lt_succ_self k), decide_eq_true hp]; rfl⟩
        rw [List.length_eq_zero_iff] at h
        rw [h] at hm
        exact absurd hm List.not_mem_nil
    · intro h
      rw [List.length_eq_zero_iff, List.eq_nil_iff_forall_not_mem]
      intro i hi
      have h1 := kidsN_lt hi
      unfold kidsN kidsTo at hi
      have h2 := (List.mem_filter.1 hi).2
      simp only [Bool.and_eq_true, decide_eq_true_eq] at h2
      exact no_kid hT hk (by omega) h1 h2.2
  by_cases q : endN ts k = k + 1
  · rw [decide_eq_true q, decide_eq_true (key.2 q)]
  · rw [decide_eq_false q, decide_eq_false (fun h => q (key.1 h))]

/-- A seal stands there. -/
noncomputable def sealX (ts : List Tk) (x : Int) : Bool := decide (0 ≤ x ∧ x < ts.length) && sealN ts x.toNat

theorem sealX_is {ts : List Tk} (hT : TreeP ts) (x : Int) : sealX ts x = (knownI ts x sealS sealM && (decide ((kidsI ts x).length = 0) && sealJ (atsJ ts x.toNat))) := by
  have ht : treeB ts = true := treeB_t hT
  unfold sealX knownI elemB kidsI hasB
  rw [ht]
  by_cases hx : 0 ≤ x ∧ x < ts.length
  · have hk : x.toNat < ts.length := by omega
    rw [decide_eq_true hx]
    simp only [Bool.true_and, if_true]
    rw [no_kids hT hk]
    unfold sealN
    rw [seal_just (names_nd hT _)]
    simp only [Bool.and_assoc]
  · rw [decide_eq_false hx]
    simp only [Bool.and_false, Bool.false_and]

end Go.Proofs.YtkejmifkjgpdjaaGreat
