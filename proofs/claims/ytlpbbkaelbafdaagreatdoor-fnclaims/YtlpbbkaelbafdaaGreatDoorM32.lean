/-  -/
import Derived.Test.YtlpbbkaelbafdaaGreatDoorM31
import Derived.Test.YtlpbbkaelbafdaaGreatDoorM23
import Derived.Test.YtlpbbkaelbafdaaGreatDoorM7
import Derived.Test.YtlpbbkaelbafdaaGreatDoorM10
import Derived.Test.YtlpbbkaelbafdaaGreatDoorM6
import Derived.Lib.AppendZerosOnto
import Derived.Lib.SliceRun
set_option linter.unusedVariables false
set_option linter.unusedSimpArgs false
namespace Go.Proofs.YtlpbbkaelbafdaaGreatDoor
open Go.RowKit

structure Rw where
 a : Option Addr
 c : Nat
 es : List Nd.E

def Rw.v (r : Rw) : Value := .slice r.a r.es.length r.c

def flatR (rs : List Rw) : List Nd.E := rs.flatMap (·.es)

theorem flatR_snoc {rs : List Rw} {i : Nat} (h : i < rs.length) : flatR (rs.take (i + 1)) = flatR (rs.take i) ++ rs[i].es := by
 unfold flatR
 rw [take_snocN h, List.flatMap_append]
 simp

theorem flatR_le (rs : List Rw) (i : Nat) : (flatR (rs.take i)).length <= (flatR rs).length := by
 have h : flatR rs = flatR (rs.take i) ++ flatR (rs.drop i) := by unfold flatR; rw [<- List.flatMap_append, List.take_append_drop]
 rw [h, List.length_append]
 omega

structure RowsIn (w : World) (B : Nat) (rs : List Rw) : Prop where
 row : ∀ r ∈ rs, Nd.Row w B r.v r.es
 ap : ∀ i j (hi : i < rs.length) (hj : j < rs.length), i < j -> ∀ e ∈ rs[i].es, ∀ f ∈ rs[j].es, Nd.Apart e f

theorem mem_flatR {rs : List Rw} {i : Nat} (hi : i <= rs.length) {e : Nd.E} (h : e ∈ flatR (rs.take i)) : ∃ j, ∃ hj : j < rs.length, j < i /\ e ∈ rs[j].es := by
 obtain ⟨r, hr, he⟩ := List.mem_flatMap.1 h
 obtain ⟨j, hj, rfl⟩ := List.getElem_of_mem hr
 rw [List.length_take] at hj
 refine ⟨j, by omega, by omega, ?_⟩
 rw [List.getElem_take] at he
 exact he

structure CatR (w wr : World) (B : Nat) (v : Value) (es : List Nd.E) : Prop where
 row : Nd.Row wr B v es
 bel : Below w.heap.size w wr
 new : ∀ k, v.ownBlock = some k -> w.heap.size <= k

theorem wpL_add (W : World) {ops : Array Oper} {rest : List Oper} {o : Oper} {a : Act} {Q : Exit -> Act -> World -> Prop} (hgd : o.guard = none) (s x : Operand)
  (ho : o.op = .call { callee := .builtin .append, args := #[s, x], argTypes := #[28, 28] }) (B N : Nat) (v v2 : Value) (es fs : List Nd.E) (hs : a.eval s = v) (hx : a.eval x = v2) (h1 : Nd.Row W B v es) (h2 : Nd.Row W B v2 fs)
  (hap : ∀ e ∈ es, ∀ f ∈ fs, Nd.Apart e f) (hN : N <= W.heap.size) (hBN : B <= N) (hv : ∀ k, v.ownBlock = some k -> N <= k) (hf : ∀ f ∈ fs, ∀ g o, 0 < f.t.attrs.length -> f.a = some ⟨g, o, none⟩ -> g < N) (hn : es.length + fs.length <= 2097152)
  (h : ∀ v' w', Nd.Row w' B v' (es ++ fs) -> Below N W w' -> (∀ k, v'.ownBlock = some k -> N <= k) -> wpList Tryz.prog ops Q rest (a.put o.dst v') w') : wpList Tryz.prog ops Q (o :: rest) a W := by
 obtain ⟨i0, hi, hz0, hz1, hz2⟩ := info_parts Nd.infoR
 obtain ⟨a2, c2, hv2⟩ := h2.slice
 subst hv2
 obtain ⟨a1, c1, hv1⟩ := h1.slice
 by_cases h0 : fs = []
 ·subst h0
  rw [List.append_nil] at h
  refine wpL_none _ hgd s x 28 42 i0 ho Tryz.underlying28 hi a1 es.length c1 (hs.trans hv1) ?_ a2 c2 hx (by rw [<- hv1]; exact h _ _ h1 (Below.refl _ _) hv)
  rw [hv1] at h1
  rcases h1.own.2 with ⟨e, _⟩ | ⟨g, cap, cur, e, _, _, hc, _⟩
  ·injection e with e1 e2 e3
   rw [e2]
   exact Nat.zero_le _
  ·injection e with e1 e2 e3
   rw [e3]
   exact hc
 ·obtain ⟨g, e, _, hcs⟩ := h2.cells h0
  subst e
  refine wpList_append_own_at W hgd s x 28 ho B 42 i0 _ 4 64 Tryz.underlying28 hi hz0 hz1 hz2 rfl (by decide) v es.length (Nd.cs es) hs h1.own ⟨g, 0, none⟩ fs.length c2 (Nd.cs fs) hx (Nd.cs_len fs) hcs (Nd.cs_cell fs) (by unfold maxLen; omega) (by omega) (by omega) ?_
  intro v' w' ho' hg' _ hw'
  have hr := h1.join (fun f hf' => ⟨(h2.ats f hf').1, fun g' o' hl e1 e2 => by have := hf f hf' g' o' hl e1; have := hv g' e2; omega⟩) h2.apart hap ho' hg' hw'
  refine h v' w' hr ((Below.refl N W).grown hg' hN hv) (fun k e => ?_)
  rcases hw' with e1 | e1
  ·exact hv k (e1.symm.trans e)
  ·rw [e1] at e
   cases e
   exact hN

def sumR (rs : List Rw) : Nat := (flatR rs).length

end Go.Proofs.YtlpbbkaelbafdaaGreatDoor

namespace Go.Proofs.YtlpbbkaelbafdaaGreatDoor
open Go.RowKit

set_option maxHeartbeats 2000000 in
theorem g_elemThere (a : Option Addr) (cap : Nat) (ts : List Tk) (x : Int) (w : World) (hR : TkRow w a ts) (hn : ts.length <= 1048576) (hz : TksSz 1048576 ts) :
  Calls Tryz.prog 87 #[.slice a ts.length cap, .int .i64 x] w fun e w' => e = .returned (.bool (elemB ts x)) /\ Below w.heap.size w w' := by
 have C := hid (cThere a cap ts x w hR hn hz)
 have HR := hid hR
 clear hR
 cases hh : hasB ts x with
 | false =>
  have HE := hid (show elemB ts x = false by unfold elemB; rw [hh]; rfl)
  rw [HE.out]
  rw [hh] at C
  clear hh HE HR hz
  generalize ts.length = n at *
  go_enter Tryz.func87, Tryz.ntmps87
  go_wp2_with fail
  refine C.out.mono ?_
  rintro e w1 ⟨rfl, hb1⟩
  have HB1 := hid hb1
  clear hb1 C
  go_wp2_with fail
  go_ret
  exact ⟨rfl, HB1.out⟩
 | true =>
  obtain ⟨hT, k, rfl, hk⟩ := hasB_t hh
  have HE := hid (show elemB ts (k : Int) = !decide (ts[k].name.size = 0) by unfold elemB; rw [hh]; show (true && !decide ((nameI ts k).size = 0)) = _; rw [nameI_at hk]; rfl)
  rw [HE.out]
  rw [hh] at C
  have HROW := hid (fun wx (hb : Below w.heap.size w wx) => (HR.out.below hb) k hk)
  obtain ⟨b, o, _, _, ea, -⟩ := HR.out k hk
  subst ea
  have hkn : (k : Int) < (ts.length : Int) := by omega
  have CI := hid (fun wx aa nA ca => cIsText ts[k].kind ts[k].name aa nA ca ts[k].text wx (hz _ (List.getElem_mem hk)).1)
  clear hh HE HR hz hT
  generalize decide (ts[k].name.size = 0) = D at *
  generalize ts[k].kind = K at *
  generalize ts[k].name = N at *
  generalize ts[k].text = T at *
  generalize ts[k].attrs = A at *
  generalize ts.length = n at *
  go_enter Tryz.func87, Tryz.ntmps87
  go_wp2_with fail
  refine C.out.mono ?_
  rintro e w1 ⟨rfl, hb1⟩
  obtain ⟨b', o', aa, ca, e', hb, q0, q1, q2, q3, _⟩ := HROW.out _ hb1
  obtain ⟨rfl, rfl⟩ : b = b' /\ o = o' := by cases e'; exact ⟨rfl, rfl⟩
  have HB1 := hid hb1
  clear hb1 C e' HROW
  go_wp2_with fail
  refine (CI.out _ _ _ _).mono ?_
  rintro e w2 ⟨rfl, hb2⟩
  have HB2 := hid (bb HB1.out hb2)
  clear hb2
  go_wp2_with fail
  go_ret
  exact ⟨rfl, HB2.out⟩

end Go.Proofs.YtlpbbkaelbafdaaGreatDoor

namespace Go.Proofs.YtlpbbkaelbafdaaGreatDoor

def nodeAt (ts : List Tk) (k : Nat) : Tk := match ts[k]? with | some t => t | none => ⟨0, ⟨#[]⟩, [], ⟨#[]⟩⟩

theorem nodeAt_at {ts : List Tk} {k : Nat} (h : k < ts.length) : nodeAt ts k = ts[k] := by unfold nodeAt; rw [List.getElem?_eq_getElem h]

def opT (t : Tk) : Tk := ⟨1, t.name, t.attrs, ⟨#[]⟩⟩
def clT (t : Tk) : Tk := ⟨2, t.name, [], ⟨#[]⟩⟩
def txT (t : Tk) : Tk := ⟨3, ⟨#[]⟩, [], t.text⟩

def tokN (ts : List Tk) : Nat -> Nat -> List Tk
 | 0, _ => []
 | f + 1, k => if (nodeAt ts k).name.size = 0 then [txT (nodeAt ts k)] else opT (nodeAt ts k) :: ((kidsTo ts k (endN ts k)).flatMap (tokN ts f) ++ [clT (nodeAt ts k)])

theorem endN_stop {ts : List Tk} {k : Nat} (h : k < ts.length) : endN ts k = ts.length \/ parI ts (endN ts k) < (k : Int) := by
 rcases Nat.lt_or_ge (endN ts k) ts.length with h' | h'
 ·right
  by_cases q : parI ts (endN ts k) < (k : Int)
  ·exact q
  ·exfalso
   have hle := endN_le h
   have key : ∀ m, k + 1 + m <= ts.length -> ((ts.drop (k + 1)).takeWhile fun t => decide ((k : Int) <= t.kind)).length = m -> k + 1 + m < ts.length -> parI ts (k + 1 + m) < (k : Int) := by
    intro m hm hl hlt
    have hsub := List.takeWhile_append_dropWhile (p := fun t : Tk => decide ((k : Int) <= t.kind)) (l := ts.drop (k + 1))
    have hd : m < (ts.drop (k + 1)).length := by rw [List.length_drop]; omega
    have e1 : (ts.drop (k + 1))[m] = ts[k + 1 + m] := List.getElem_drop ..
    have hne : ((ts.drop (k + 1)).dropWhile fun t => decide ((k : Int) <= t.kind)) ≠ [] := by
     intro e0
     have := congrArg List.length hsub
     rw [List.length_append, e0, hl, List.length_nil] at this
     omega
    have hhd := List.head_dropWhile_not (fun t : Tk => decide ((k : Int) <= t.kind)) hne
    have e2 : ((ts.drop (k + 1)).dropWhile fun t => decide ((k : Int) <= t.kind)).head hne = ts[k + 1 + m] := by
     rw [<- e1, List.head_eq_getElem]
     have : (ts.drop (k + 1))[m]? = some (((ts.drop (k + 1)).dropWhile fun t => decide ((k : Int) <= t.kind))[0]'(List.length_pos_iff.2 hne)) := by
      conv => lhs; rw [<- hsub]
      rw [List.getElem?_append_right (by omega), hl, Nat.sub_self, List.getElem?_eq_getElem (List.length_pos_iff.2 hne)]
     rw [List.getElem?_eq_getElem hd] at this
     exact (Option.some.inj this).symm
    rw [e2] at hhd
    rw [parI_at hlt]
    simpa using hhd
   exact q (key _ hle.2 rfl h')
 ·left
  have := endN_le h
  omega

theorem endN_min {ts : List Tk} {k e : Nat} (hk : k < ts.length) (he : k < e) (hp : e < ts.length -> parI ts e < (k : Int)) (hle : e <= ts.length) : endN ts k <= e := by
 rcases Nat.lt_or_ge e (endN ts k) with h | h
 ·exfalso
  have h2 := endN_le hk
  have h3 := hp (by omega)
  have h4 : (k : Int) <= parI ts e := by
   have hm : e - (k + 1) < ((ts.drop (k + 1)).takeWhile fun t => decide ((k : Int) <= t.kind)).length := by unfold endN at h; omega
   have h5 := List.all_eq_true.1 (List.all_takeWhile (p := fun t : Tk => decide ((k : Int) <= t.kind)) (l := ts.drop (k + 1))) _ (List.getElem_mem hm)
   have e1 : ((ts.drop (k + 1)).takeWhile fun t => decide ((k : Int) <= t.kind))[e - (k + 1)] = (ts.drop (k + 1))[e - (k + 1)]'(by rw [List.length_drop]; omega) :=
    (List.takeWhile_prefix _).getElem hm
   rw [e1, List.getElem_drop] at h5
   have e2 : k + 1 + (e - (k + 1)) = e := by omega
   simp only [e2] at h5
   rw [parI_at (by omega)]
   simpa using h5
  omega
 ·exact h

theorem kid_end {ts : List Tk} {k i : Nat} (hk : k < ts.length) (hi : k < i) (hie : i < endN ts k) : endN ts i <= endN ts k /\ ∀ j, i < j -> j < ts.length -> parI ts j = (k : Int) -> endN ts i <= j := by
 have hle := endN_le hk
 refine ⟨?_, fun j hj hjn hp => ?_⟩
 ·rcases endN_stop hk with h | h
  ·rw [h]
   exact (endN_le (by omega)).2
  ·exact endN_min (by omega) hie (fun _ => by omega) hle.2
 ·exact endN_min (by omega) hj (fun _ => by omega) (by omega)

theorem kids_len {ts : List Tk} {k : Nat} (L : Nat -> Nat) (hk : k < ts.length) (hL : ∀ i, k < i -> i < endN ts k -> L i <= 2 * (endN ts i - i)) :
  ∀ e, k < e -> e <= endN ts k -> ∃ m, k + 1 <= m /\ m <= endN ts k /\ ((kidsTo ts k e).map L).sum <= 2 * (m - (k + 1)) /\ ∀ j, e <= j -> j < endN ts k -> parI ts j = (k : Int) -> m <= j := by
 have hle := endN_le hk
 intro e
 induction e with
 | zero => intro h; omega
 | succ e ih =>
  intro h1 h2
  by_cases he : e = k
  ·subst he
   refine ⟨e + 1, Nat.le_refl _, h2, ?_, fun j hj _ _ => by omega⟩
   rw [kidsTo_first]
   simp
  ·obtain ⟨m, m1, m2, m3, m4⟩ := ih (by omega) (by omega)
   rw [kidsTo_next (by omega)]
   by_cases q : parI ts e = (k : Int)
   ·rw [if_pos q, List.map_append, List.sum_append]
    obtain ⟨q1, q2⟩ := kid_end hk (show k < e by omega) (by omega)
    have hm := m4 e (Nat.le_refl _) (by omega) q
    have hl := hL e (by omega) (by omega)
    have he2 := endN_le (ts := ts) (k := e) (by omega)
    refine ⟨endN ts e, by omega, q1, ?_, fun j hj hjn hp => q2 j (by omega) (by omega) hp⟩
    simp only [List.map_cons, List.map_nil, List.sum_cons, List.sum_nil]
    omega
   ·rw [if_neg q, List.append_nil]
    exact ⟨m, m1, m2, m3, fun j hj hjn hp => m4 j (by omega) hjn hp⟩

theorem flatMap_len {α β : Type} (f : α -> List β) (l : List α) : (l.flatMap f).length = (l.map fun x => (f x).length).sum := by
 rw [List.length_flatMap]

theorem tokN_len {ts : List Tk} : ∀ f k, k < ts.length -> (tokN ts f k).length <= 2 * (endN ts k - k)
 | 0, k, h => by simp [tokN]
 | f + 1, k, h => by
  have hle := endN_le h
  unfold tokN
  split
  ·simp; omega
  ·obtain ⟨m, m1, m2, m3, _⟩ := kids_len (fun i => (tokN ts f i).length) h (fun i h1 h2 => tokN_len f i (by omega)) (endN ts k) hle.1 (Nat.le_refl _)
   simp only [List.length_cons, List.length_append, List.length_nil, flatMap_len]
   omega

theorem tokKids_len {ts : List Tk} (f : Nat) {k e : Nat} (h : k < ts.length) (h1 : k < e) (h2 : e <= endN ts k) : ((kidsTo ts k e).flatMap (tokN ts f)).length <= 2 * (endN ts k - (k + 1)) := by
 obtain ⟨m, m1, m2, m3, _⟩ := kids_len (fun i => (tokN ts f i).length) h (fun i h1 h2 => tokN_len f i (by have := endN_le h; omega)) e h1 h2
 rw [flatMap_len]
 omega

theorem tokN_sz {ts : List Tk} (hz : TksSz 1048576 ts) : ∀ f k, TksSz 1048576 (tokN ts f k)
 | 0, k => fun t ht => by simp [tokN] at ht
 | f + 1, k => by
  have hk : TkSz 1048576 (nodeAt ts k) := by
   by_cases h : k < ts.length
   ·rw [nodeAt_at h]; exact hz _ (List.getElem_mem h)
   ·unfold nodeAt
    rw [List.getElem?_eq_none (by omega)]
    exact ⟨Nat.zero_le _, Nat.zero_le _, fun x hx => absurd hx List.not_mem_nil, Nat.zero_le _⟩
  obtain ⟨z1, z2, z3, z4⟩ := hk
  intro t ht
  unfold tokN at ht
  split at ht
  ·rw [List.mem_singleton] at ht
   subst ht
   exact ⟨Nat.zero_le _, Nat.zero_le _, fun x hx => absurd hx List.not_mem_nil, z4⟩
  ·rcases List.mem_cons.1 ht with rfl | ht
   ·exact ⟨z1, z2, z3, Nat.zero_le _⟩
   ·rcases List.mem_append.1 ht with ht | ht
    ·obtain ⟨i, _, hi⟩ := List.mem_flatMap.1 ht
     exact tokN_sz hz f i t hi
    ·rw [List.mem_singleton] at ht
     subst ht
     exact ⟨z1, Nat.zero_le _, fun x hx => absurd hx List.not_mem_nil, Nat.zero_le _⟩

end Go.Proofs.YtlpbbkaelbafdaaGreatDoor

namespace Go.Proofs.YtlpbbkaelbafdaaGreatDoor

theorem TreeP.up {ts : List Tk} (h : TreeP ts) (j : Nat) (hj : j < ts.length) : UpOk ts j := (h.2.2.2.2 j hj).2.1

theorem TreeP.linked {ts : List Tk} (h : TreeP ts) (m : Nat) (hm : m < ts.length) : Linked ts (chainF ts (m + 1)) /\ ∀ p ∈ chainF ts (m + 1), p < m + 1 := linked_all m (fun j hj => h.up j (by omega))

theorem endN_in {ts : List Tk} {k e : Nat} (hk : k < ts.length) (he : k < e) (h : e < endN ts k) : (k : Int) <= parI ts e := by
 by_cases q : (k : Int) <= parI ts e
 ·exact q
 ·have h2 := endN_le hk
  have := endN_min hk he (fun _ => by omega) (by omega)
  omega

theorem mem_drop {ts : List Tk} : ∀ {c : List Nat}, Linked ts c -> ∀ p q, p ∈ c -> q ∈ c -> q <= p -> q ∈ c.dropWhile (fun (j : Nat) => !decide ((j : Int) = (p : Int)))
 | [], h, p, q, hp, _, _ => absurd hp (by simp)
 | [x], h, p, q, hp, hq, _ => by
  rw [List.mem_singleton] at hp hq
  subst hp hq
  simp
 | x :: y :: r, h, p, q, hp, hq, hle => by
  by_cases e : x = p
  ·subst e
   simpa using hq
  ·have hp' : p ∈ y :: r := by
    rcases List.mem_cons.1 hp with h' | h'
    ·exact absurd h'.symm e
    ·exact h'
   have h1 := Linked.le h.tail p hp'
   have h2 := h.2.1
   have hq' : q ∈ y :: r := by
    rcases List.mem_cons.1 hq with h' | h'
    ·omega
    ·exact h'
   rw [List.dropWhile_cons, if_pos (by simp; omega)]
   exact mem_drop h.tail p q hp' hq' hle

theorem below_par {ts : List Tk} : ∀ {l : List Nat}, Linked ts l -> ∀ c q, c ∈ l -> q ∈ l -> q < c -> (q : Int) <= parI ts c
 | [], h, c, q, hc, _, _ => absurd hc (by simp)
 | [x], h, c, q, hc, hq, hlt => by
  rw [List.mem_singleton] at hc hq
  omega
 | x :: y :: r, h, c, q, hc, hq, hlt => by
  by_cases e : c = x
  ·subst e
   have hq' : q ∈ y :: r := by
    rcases List.mem_cons.1 hq with h' | h'
    ·omega
    ·exact h'
   have h1 := Linked.le h.tail q hq'
   rw [h.1]
   omega
  ·have hc' : c ∈ y :: r := by
    rcases List.mem_cons.1 hc with h' | h'
    ·exact absurd h' e
    ·exact h'
   have h1 := Linked.le h.tail c hc'
   have h2 := h.2.1
   have hq' : q ∈ y :: r := by
    rcases List.mem_cons.1 hq with h' | h'
    ·omega
    ·exact h'
   exact below_par h.tail c q hc' hq' hlt

theorem in_chain {ts : List Tk} (h : TreeP ts) {c : Nat} (hc : c < ts.length) : ∀ d, c + d < endN ts c -> c ∈ chainF ts (c + d + 1)
 | 0, _ => by
  obtain ⟨r, e⟩ := chain_head ts c
  rw [Nat.add_zero, e]
  exact List.mem_cons_self ..
 | d + 1, hd => by
  have hle := endN_le hc
  have ih := in_chain h hc d (by omega)
  have hpar := endN_in hc (show c < c + (d + 1) by omega) hd
  obtain ⟨hL, _⟩ := h.linked (c + d) (by omega)
  rcases h.up (c + (d + 1)) (by omega) with h0 | ⟨p, hp, e, _⟩
  ·omega
  ·rw [<- e] at hpar
   have hm := mem_drop hL p c hp ih (by omega)
   show c ∈ (c + (d + 1)) :: (chainF ts (c + (d + 1))).dropWhile (fun (j : Nat) => !decide ((j : Int) = parI ts (c + (d + 1))))
   rw [<- e]
   exact List.mem_cons_of_mem _ hm

theorem next_kid {ts : List Tk} (h : TreeP ts) {k c : Nat} (hk : k < ts.length) (hc : k < c) (hce : c < endN ts k) (hp : parI ts c = (k : Int)) (hj : endN ts c < endN ts k) : parI ts (endN ts c) = (k : Int) := by
 have hle := endN_le hk
 have hcl := endN_le (ts := ts) (k := c) (by omega)
 have hlow := endN_in hk (show k < endN ts c by omega) hj
 have hup : parI ts (endN ts c) < (c : Int) := by
  rcases endN_stop (ts := ts) (k := c) (by omega) with h' | h'
  ·omega
  ·exact h'
 have hin := in_chain h (show c < ts.length by omega) (endN ts c - c - 1) (by omega)
 rw [show c + (endN ts c - c - 1) + 1 = endN ts c by omega] at hin
 have hL := (h.linked (endN ts c - 1) (by omega)).1
 rw [show endN ts c - 1 + 1 = endN ts c by omega] at hL
 rcases h.up (endN ts c) (by omega) with h0 | ⟨p, hpm, e, _⟩
 ·omega
 ·rw [<- e] at hlow hup ⊢
  have := below_par hL c p hin hpm (by omega)
  rw [hp] at this
  omega

theorem first_kid {ts : List Tk} (h : TreeP ts) {k : Nat} (hk : k < ts.length) (he : k + 1 < endN ts k) : parI ts (k + 1) = (k : Int) := by
 have hle := endN_le hk
 have hlow := endN_in hk (show k < k + 1 by omega) he
 rcases h.up (k + 1) (by omega) with h0 | ⟨p, hpm, e, _⟩
 ·omega
 ·have := (h.linked k hk).2 p hpm
  rw [<- e] at hlow ⊢
  omega

theorem out_chain {ts : List Tk} (h : TreeP ts) {k : Nat} (hk : k < ts.length) : ∀ d, endN ts k + d < ts.length -> ¬ k ∈ chainF ts (endN ts k + d + 1)
 | 0, hd => by
  have hle := endN_le hk
  intro hm
  have hup : parI ts (endN ts k) < (k : Int) := by
   rcases endN_stop hk with h' | h'
   ·omega
   ·exact h'
  have hL := h.linked (endN ts k - 1) (by omega)
  rw [show endN ts k - 1 + 1 = endN ts k by omega] at hL
  obtain ⟨hl2, p, r, e, ep, _⟩ := linked_next hL.1 (h.up (endN ts k) (by omega)) (by omega) hL.2
  rw [Nat.add_zero, e] at hm
  rw [e] at hl2
  rcases List.mem_cons.1 hm with h' | h'
  ·omega
  ·have := Linked.le hl2.tail k h'
   omega
 | d + 1, hd => by
  have hle := endN_le hk
  have ih := out_chain h hk d (by omega)
  intro hm
  have hm : k ∈ (endN ts k + (d + 1)) :: (chainF ts (endN ts k + d + 1)).dropWhile (fun (j : Nat) => !decide ((j : Int) = parI ts (endN ts k + (d + 1)))) := hm
  rcases List.mem_cons.1 hm with h' | h'
  ·omega
  ·exact ih ((List.dropWhile_sublist _).mem h')

theorem no_kid {ts : List Tk} (h : TreeP ts) {k i : Nat} (hk : k < ts.length) (hi : endN ts k <= i) (hn : i < ts.length) : ¬ parI ts i = (k : Int) := by
 have hle := endN_le hk
 intro e
 rcases Nat.lt_or_eq_of_le hi with h' | h'
 ·rcases h.up i hn with h0 | ⟨p, hpm, ep, _⟩
  ·omega
  ·have : p = k := by omega
   subst this
   have := out_chain h hk (i - endN ts p - 1) (by omega)
   rw [show endN ts p + (i - endN ts p - 1) + 1 = i by omega] at this
   exact this hpm
 ·subst h'
  rcases endN_stop hk with h' | h'
  ·omega
  ·omega

def kidsFrom (ts : List Tk) (k e E : Nat) : List Nat := (List.range' e (E - e)).filter fun i => decide (parI ts i = (k : Int))

theorem kidsFrom_split {ts : List Tk} {k a b c : Nat} (h1 : a <= b) (h2 : b <= c) : kidsFrom ts k a c = kidsFrom ts k a b ++ kidsFrom ts k b c := by
 unfold kidsFrom
 rw [<- List.filter_append]
 congr 1
 have := List.range'_append_1 (s := a) (m := b - a) (n := c - b)
 rw [show a + (b - a) = b by omega, show b - a + (c - b) = c - a by omega] at this
 exact this.symm

theorem kidsFrom_none {ts : List Tk} {k a b : Nat} (h : ∀ i, a <= i -> i < b -> ¬ parI ts i = (k : Int)) : kidsFrom ts k a b = [] := by
 unfold kidsFrom
 rw [List.filter_eq_nil_iff]
 intro i hi
 rw [List.mem_range'_1] at hi
 simpa using h i hi.1 (by omega)

theorem kidsN_from {ts : List Tk} {k : Nat} (hk : k < ts.length) : kidsN ts k = kidsFrom ts k (k + 1) ts.length := by
 unfold kidsN kidsTo kidsFrom
 have e : List.range ts.length = List.range' 0 (k + 1) ++ List.range' (k + 1) (ts.length - (k + 1)) := by
  have := List.range'_append_1 (s := 0) (m := k + 1) (n := ts.length - (k + 1))
  rw [Nat.zero_add, show k + 1 + (ts.length - (k + 1)) = ts.length by omega] at this
  rw [this, List.range_eq_range']
 rw [e, List.filter_append]
 have e1 : (List.range' 0 (k + 1)).filter (fun i => decide (k < i) && decide (parI ts i = (k : Int))) = [] := by
  rw [List.filter_eq_nil_iff]
  intro i hi
  rw [List.mem_range'_1] at hi
  simp
  omega
 rw [e1, List.nil_append]
 refine List.filter_congr fun i hi => ?_
 rw [List.mem_range'_1] at hi
 have : decide (k < i) = true := decide_eq_true (by omega)
 rw [this, Bool.true_and]

structure FamAt (ts : List Tk) (k i e : Nat) : Prop where
 lo : k < e
 hi : e <= endN ts k
 kid : e < endN ts k -> parI ts e = (k : Int)
 rest : kidsFrom ts k e (endN ts k) = (kidsN ts k).drop i

theorem fam_start {ts : List Tk} (h : TreeP ts) {k : Nat} (hk : k < ts.length) : FamAt ts k 0 (k + 1) := by
 have hle := endN_le hk
 refine ⟨by omega, by omega, fun he => first_kid h hk he, ?_⟩
 rw [List.drop_zero, kidsN_from hk, kidsFrom_split (show k + 1 <= endN ts k by omega) hle.2, kidsFrom_none (a := endN ts k) (fun i h1 h2 => no_kid h hk h1 h2), List.append_nil]

theorem fam_one {ts : List Tk} (h : TreeP ts) {k e : Nat} (hk : k < ts.length) (h1 : k < e) (h2 : e < endN ts k) (h3 : parI ts e = (k : Int)) : kidsFrom ts k e (endN ts k) = e :: kidsFrom ts k (endN ts e) (endN ts k) := by
 have hle := endN_le hk
 have hel := endN_le (ts := ts) (k := e) (by omega)
 have hke := (kid_end hk h1 h2).1
 rw [kidsFrom_split (show e <= e + 1 by omega) (show e + 1 <= endN ts k by omega), kidsFrom_split (show e + 1 <= endN ts e by omega) hke]
 have e1 : kidsFrom ts k e (e + 1) = [e] := by
  unfold kidsFrom
  rw [show e + 1 - e = 1 by omega]
  simp [h3]
 have e2 : kidsFrom ts k (e + 1) (endN ts e) = [] := kidsFrom_none (fun i g1 g2 => by
  have := endN_in (ts := ts) (k := e) (by omega) (show e < i by omega) g2
  omega)
 rw [e1, e2, List.nil_append]
 rfl

theorem FamAt.step {ts : List Tk} (h : TreeP ts) {k i e : Nat} (hk : k < ts.length) (f : FamAt ts k i e) (hi : i < (kidsN ts k).length) :
  (kidsN ts k)[i] = e /\ e < endN ts k /\ parI ts e = (k : Int) /\ FamAt ts k (i + 1) (endN ts e) := by
 have hle := endN_le hk
 have hr := f.rest
 rw [List.drop_eq_getElem_cons hi] at hr
 have hlt : e < endN ts k := by
  rcases Nat.lt_or_eq_of_le f.hi with h' | h'
  ·exact h'
  ·rw [h', kidsFrom_none (fun i g1 g2 => by omega)] at hr
   cases hr
 have hp := f.kid hlt
 rw [fam_one h hk f.lo hlt hp] at hr
 injection hr with e1 e2
 have hel := endN_le (ts := ts) (k := e) (by omega)
 exact ⟨e1.symm, hlt, hp, ⟨by have := f.lo; omega, (kid_end hk f.lo hlt).1, fun hj => next_kid h hk f.lo hlt hp hj, e2⟩⟩

theorem FamAt.fin {ts : List Tk} (h : TreeP ts) {k i e : Nat} (hk : k < ts.length) (f : FamAt ts k i e) (hi : i = (kidsN ts k).length) : e = endN ts k := by
 rcases Nat.lt_or_eq_of_le f.hi with h' | h'
 ·have hr := f.rest
  rw [fam_one h hk f.lo h' (f.kid h'), hi, List.drop_length] at hr
  cases hr
 ·exact h'

end Go.Proofs.YtlpbbkaelbafdaaGreatDoor
