/-  -/
import Derived.Test.YtoioiddjbanahaaGreatDoorM37
import Derived.Test.YtoioiddjbanahaaGreatDoorM36
import Derived.Test.YtoioiddjbanahaaGreatDoorM20
import Derived.Test.YtoioiddjbanahaaGreatDoorM32
import Derived.Test.YtoioiddjbanahaaGreatDoorM33
import Derived.Maps.AppendAt
set_option linter.unusedVariables false
set_option linter.unusedSimpArgs false
namespace Go.Proofs.YtoioiddjbanahaaGreatDoor

open Go.RowKit

def catL (ss : List ByteArray) : ByteArray := ss.foldl (fun s x => s ++ x) ⟨#[]⟩

theorem catL_next {ss : List ByteArray} {i : Nat} (h : i < ss.length) : catL (ss.take (i + 1)) = catL (ss.take i) ++ ss[i] := by
 unfold catL
 rw [take_snocN h, List.foldl_append]
 rfl

theorem cat_size (ss : List ByteArray) (s : ByteArray) : s.size <= (ss.foldl (fun s x => s ++ x) s).size := by
 induction ss generalizing s with
 | nil => exact Nat.le_refl _
 | cons x ss ih =>
  have := ih (s ++ x)
  rw [ByteArray.size_append] at this
  rw [List.foldl_cons]
  omega

theorem catL_take (ss : List ByteArray) (i : Nat) : (catL (ss.take i)).size <= (catL ss).size := by
 unfold catL
 conv => rhs; rw [<- List.take_append_drop i ss, List.foldl_append]
 exact cat_size _ _

def elS (nm : ByteArray) (ds os : List At) (ss : List ByteArray) : ByteArray := ((((((((⟨#[60]⟩ : ByteArray) ++ nm) ++ atsS ds ⟨#[]⟩) ++ atsS os ⟨#[]⟩) ++ ⟨#[62]⟩) ++ catL ss) ++ ⟨#[60, 47]⟩) ++ nm) ++ ⟨#[62]⟩

def RowX (X : Nat -> Prop) (w : World) (a : Option Addr) (l : List At) : Prop := AtRow w a l /\ ∀ g o, 0 < l.length -> a = some ⟨g, o, none⟩ -> X g

def ShAt (X : Nat -> Prop) (w : World) : Nat -> Value -> ByteArray -> Prop
 | 0, _, _ => False
 | f + 1, v, s => s.size <= 4000000000 /\ ((∃ t : ByteArray, v = .iface 203 (.string t) /\ t.size <= 1048576 /\ s = escS false t) \/
  ∃ (nm : ByteArray) (a1 : Option Addr) (c1 : Nat) (ds : List At) (a2 : Option Addr) (c2 : Nat) (os : List At) (a3 : Option Addr) (c3 : Nat) (ss : List ByteArray),
   v = .iface 200 (.agg #[.string nm, .slice a1 ds.length c1, .slice a2 os.length c2, .slice a3 ss.length c3]) /\ nm.size <= 1048576 /\ RowX X w a1 ds /\ AtSz 1048576 ds /\ ds.length <= 7 /\ RowX X w a2 os /\ AtSz 1048576 os /\ os.length <= 7 /\ ss.length <= 1048576 /\
   (∀ i (h : i < ss.length), ∃ g o u, a3 = some ⟨g, o, none⟩ /\ X g /\ g < w.heap.size /\ w.cell? ⟨g, o + i, none⟩ = some u /\ ShAt X w f u ss[i]) /\ s = elS nm ds os ss)

theorem RowX.keep {X Y : Nat -> Prop} {w w' : World} {a : Option Addr} {l : List At} (h : RowX X w a l) (hXY : ∀ g, g < w.heap.size -> X g -> Y g) (hs : w.heap.size <= w'.heap.size) (hk : ∀ g, g < w.heap.size -> X g -> w'.heap[g]? = w.heap[g]?) : RowX Y w' a l := by
 refine ⟨fun j hj => ?_, fun g o h0 e => ?_⟩
 ·obtain ⟨b, o, rfl, hb, c1, c2⟩ := h.1 j hj
  have hx := h.2 b o (by omega) rfl
  have e : ∀ i, w'.cell? ⟨b, i, none⟩ = w.cell? ⟨b, i, none⟩ := fun i => by simp only [World.cell?, hk b hb hx]
  exact ⟨b, o, rfl, Nat.lt_of_lt_of_le hb hs, by rw [e]; exact c1, by rw [e]; exact c2⟩
 ·obtain ⟨b, o', e', hb, _, _⟩ := h.1 0 h0
  subst e
  injection e' with e1
  injection e1 with e2
  subst e2
  exact hXY g hb (h.2 g o h0 rfl)

theorem ShAt.keep {X Y : Nat -> Prop} {w w' : World} (hXY : ∀ g, g < w.heap.size -> X g -> Y g) (hs : w.heap.size <= w'.heap.size) (hk : ∀ g, g < w.heap.size -> X g -> w'.heap[g]? = w.heap[g]?) : ∀ {f : Nat} {v : Value} {s : ByteArray}, ShAt X w f v s -> ShAt Y w' f v s
 | 0, v, s, h => h.elim
 | f + 1, v, s, h => by
  obtain ⟨h0, h | ⟨nm, a1, c1, ds, a2, c2, os, a3, c3, ss, e1, e2, e3, e4, e5, e6, e7, e8, e9, e10, e11⟩⟩ := h
  ·exact ⟨h0, .inl h⟩
  ·refine ⟨h0, .inr ⟨nm, a1, c1, ds, a2, c2, os, a3, c3, ss, e1, e2, e3.keep hXY hs hk, e4, e5, e6.keep hXY hs hk, e7, e8, e9, fun i hi => ?_, e11⟩⟩
   obtain ⟨g, o, u, q1, q2, q3, q4, q5⟩ := e10 i hi
   exact ⟨g, o, u, q1, hXY g q3 q2, Nat.lt_of_lt_of_le q3 hs, by rw [<- q4]; simp only [World.cell?, hk g q3 q2], ShAt.keep hXY hs hk q5⟩

theorem ShAt.below {X : Nat -> Prop} {w w' : World} {f : Nat} {v : Value} {s : ByteArray} (h : ShAt X w f v s) (hb : Below w.heap.size w w') : ShAt X w' f v s :=
 h.keep (fun _ _ h => h) hb.size (fun g hg _ => hb.block g hg)

theorem ShAt.size {X : Nat -> Prop} {w : World} {f : Nat} {v : Value} {s : ByteArray} (h : ShAt X w f v s) : s.size <= 4000000000 := by
 cases f with
 | zero => exact h.elim
 | succ f => exact h.1

def KidsAt (X : Nat -> Prop) (w : World) (f : Nat) (a3 : Option Addr) (ss : List ByteArray) : Prop := ∀ i (h : i < ss.length), ∃ g o u, a3 = some ⟨g, o, none⟩ /\ X g /\ g < w.heap.size /\ w.cell? ⟨g, o + i, none⟩ = some u /\ ShAt X w f u ss[i]

theorem KidsAt.below {X : Nat -> Prop} {w w' : World} {f : Nat} {a3 : Option Addr} {ss : List ByteArray} (h : KidsAt X w f a3 ss) (hb : Below w.heap.size w w') : KidsAt X w' f a3 ss := fun i hi => by
 obtain ⟨g, o, u, q1, q2, q3, q4, q5⟩ := h i hi
 exact ⟨g, o, u, q1, q2, Nat.lt_of_lt_of_le q3 hb.size, (hb.cell (p := ⟨g, o + i, none⟩) q3).trans q4, q5.below hb⟩

set_option maxRecDepth 100000 in
set_option maxHeartbeats 4000000 in
theorem cWrittenAll (f : Nat) (X : Nat -> Prop) (CW : ∀ (v : Value) (s : ByteArray) (wx : World), ShAt X wx f v s -> Calls Tryz.prog 118 #[v] wx fun e w' => e = .returned (.string s) /\ Below wx.heap.size wx w')
  (a3 : Option Addr) (c3 : Nat) (ss : List ByteArray) (w : World) (hK : KidsAt X w f a3 ss) (hn : ss.length <= 1048576) (hz : (catL ss).size <= 4000000000) :
  Calls Tryz.prog 160 #[.slice a3 ss.length c3] w fun e w' => e = .returned (.string (catL ss)) /\ Below w.heap.size w w' := by
 obtain ⟨V, hV⟩ : ∃ V, catL ss = V := ⟨_, rfl⟩
 have HV := hid hV
 have HK := hid hK
 have HC := hid CW
 have HT := hid (fun i => catL_take ss i)
 rw [hV] at hz HT ⊢
 clear hV hK CW
 obtain ⟨n, hnn⟩ : ∃ n, ss.length = n := ⟨_, rfl⟩
 have HN := hid hnn
 rw [hnn] at hn ⊢
 clear hnn
 go_enter Tryz.func160, Tryz.ntmps160
 go_wp2_with fail
 go_loopw [8] (fun k wr => ∃ i : Nat, k = .int .i64 (i : Int) /\ i <= n /\ Hid (Lib.IsBuilder 213 5 w.heap.size w.heap.size (Lib.strCells (catL (ss.take i))) wr) /\ Hid (Below w.heap.size w wr) /\ w.heap.size < wr.heap.size) (fun k _ => n - (intOf k).toNat)
 case atStart => exact ⟨0, rfl, Nat.zero_le _, Lib.fresh_isBuilder 213 5 _, (Below.refl _ _).alloc (Nat.le_refl _) _, by simp⟩
 case round =>
  obtain ⟨i, rfl, hi, HI, HB, hsz⟩ := hrel
  have hz2 : (Lib.strCells (catL (ss.take i))).length <= 4000000000 := by rw [Lib.strCells_length]; have := HT.out i; omega
  by_cases hlt : i < n
  ·have his : i < ss.length := by rw [HN.out]; exact hlt
   have hin : (i : Int) < (n : Int) := by omega
   obtain ⟨g, o, u, rfl, q2, q3, q4, q5⟩ := (HK.out.below HB.out) i his
   have HX := hid (catL_next his)
   have HU := hid (HC.out u ss[i] wr q5)
   have hus := q5.size
   obtain ⟨y, hy⟩ : ∃ y, ss[i] = y := ⟨_, rfl⟩
   rw [hy] at HX HU hus
   clear hy q5 q2
   generalize catL (ss.take i) = cur at *
   go_wp2_with fail
   refine HU.out.mono ?_
   rintro e w1 ⟨rfl, hb1⟩
   have HI1 := hid (isBuilder_below HI.out hb1)
   have HB1 := hid (bb HB.out hb1)
   have hsz1 : w.heap.size < w1.heap.size := Nat.lt_of_lt_of_le hsz hb1.size
   clear hb1 HU q4 HB HI
   go_wp2_with fail
   refine (writeString w.heap.size w.heap.size (Lib.strCells cur) _ _ HI1.out (by omega) (Nat.le_of_lt hsz1)).mono ?_
   rintro e w2 ⟨rfl, hI2, hb2, hk2⟩
   have HI2 := hid hI2
   have HB2 := hid (HB1.out.trans hb2)
   have HZ2 := hid (show w.heap.size < w2.heap.size by have := hb2.size; omega)
   clear hI2 hb2 hk2
   go_wp2_with fail
   go_roundw
   case rel => exact ⟨i + 1, by go_num, by omega, by rw [HX.out, <- strCells_app]; exact HI2.out, HB2.out, HZ2.out⟩
   case measure => simp [intOf]; omega
  ·have hie : i = n := by omega
   subst hie
   have e1 : catL (ss.take i) = V := by rw [List.take_of_length_le (by rw [HN.out]; exact Nat.le_refl _)]; exact HV.out
   rw [e1] at HI hz2
   have e2 := str_eta V
   have hI2 := HI.out
   rw [Lib.strCells_eq] at hI2
   have C := hid (fun h => Tryz.Builder_String_any _ _ _ wr hI2 h)
   rw [e2] at C
   clear hI2 e1 e2
   go_wp2_with fail
   refine (C.out (Nat.le_of_lt hsz)).mono ?_
   rintro e w2 ⟨rfl, hb2⟩
   have HB2 := hid (HB.out.trans hb2)
   go_wp2_with fail
   go_ret
   exact ⟨rfl, HB2.out⟩

end Go.Proofs.YtoioiddjbanahaaGreatDoor

namespace Go.Proofs.YtoioiddjbanahaaGreatDoor

open Go.RowKit

theorem linked_one {ts : List Tk} : ∀ {c d : List Nat} {x : Nat}, Linked ts (x :: c) -> Linked ts (x :: d) -> c = d
 | [], [], x, _, _ => rfl
 | [], z :: d, x, h, k => by
  have h0 : x = 0 := h
  have := k.2.1
  omega
 | y :: c, [], x, h, k => by
  have h0 : x = 0 := k
  have := h.2.1
  omega
 | y :: c, z :: d, x, h, k => by
  have e : y = z := by
   have h1 := h.1
   have k1 := k.1
   omega
  subst e
  rw [linked_one h.tail k.tail]

theorem outAts_up {ts : List Tk} (hT : TreeP ts) {k : Nat} {t : Tk} (ht : ts[k]? = some t) (hk : ¬ k = 0) : ∃ p : Nat, (p : Int) = t.kind /\ p < k /\ elN ts p /\ outAts ts k = t.attrs ++ outAts ts p := by
 have hkl : k < ts.length := by
  rcases Nat.lt_or_ge k ts.length with h | h
  ·exact h
  ·rw [List.getElem?_eq_none h] at ht; cases ht
 have hup : ∀ j, j < ts.length -> UpOk ts j := fun j hj => (hT.2.2.2.2 j hj).2.1
 have e1 : t.kind = parI ts k := by unfold parI; rw [ht]
 rcases hup k hkl with h0 | ⟨p, hp, hpk, hel⟩
 ·exact absurd h0 hk
 ·obtain ⟨i, rfl⟩ : ∃ i, k = i + 1 := ⟨k - 1, by omega⟩
  have hL := linked_all (ts := ts) i (fun j hj => hup j (by omega))
  obtain ⟨h3, q, r, e, eq, hq⟩ := linked_next hL.1 (hup _ hkl) (by omega) hL.2
  have eqp : q = p := by omega
  subst eqp
  refine ⟨q, by rw [e1]; exact eq, hq, hel, ?_⟩
  have hL2 := linked_all (ts := ts) q (fun j hj => hup j (by omega))
  obtain ⟨r2, e2⟩ := chain_head ts q
  have er : r = r2 := by
   rw [e] at h3
   rw [e2] at hL2
   exact linked_one h3.tail hL2.1
  unfold outAts
  rw [e, e2, <- er]
  unfold upAts
  rw [List.flatMap_cons, ht]

section

variable {ts : List Tk} {k : Nat} {t : Tk} {x : At}

end

end Go.Proofs.YtoioiddjbanahaaGreatDoor

namespace Go.Proofs.YtoioiddjbanahaaGreatDoor

open Go.RowKit

def PreOk (p : ByteArray) : Prop := p.size = 0 \/ lettersL p.data.toList = true

theorem preS_ok (s : ByteArray) : PreOk (preS s) := by
 unfold PreOk preS partP
 by_cases h : nameL s.data.toList = true
 ·rw [if_pos h]
  unfold nameL at h
  unfold preL at h ⊢
  cases hc : colonAt s.data.toList with
  | none => exact .inl rfl
  | some a =>
   rw [hc] at h
   simp only [Bool.and_eq_true] at h
   exact .inr h.1
 ·rw [if_neg h]
  exact .inl rfl

theorem preOk_sz {p : ByteArray} (h : PreOk p) : p.size <= 10 := by
 rcases h with h | h
 ·omega
 ·unfold lettersL at h
  simp only [Bool.and_eq_true, decide_eq_true_eq] at h
  exact h.1.2

theorem colon_ns {l : List UInt8} : colonAt (110 :: 115 :: 58 :: l) = some 2 := by
 unfold colonAt
 rfl

theorem nmD_decl {p : ByteArray} (hp : PreOk p) (m : ByteArray) : declF ⟨nmD p, m⟩ = some p := by
 by_cases h0 : p.size = 0
 ·have e : nmD p = nsS := by unfold nmD; rw [if_pos h0]; rfl
  unfold declF
  rw [if_pos e, empty_of p h0]
 ·have hl : lettersL p.data.toList = true := hp.resolve_left h0
  have e : nmD p = (⟨#[110, 115, 58]⟩ : ByteArray) ++ p := by unfold nmD; rw [if_neg h0]
  have el : ((⟨#[110, 115, 58]⟩ : ByteArray) ++ p).data.toList = 110 :: 115 :: 58 :: p.data.toList := by
   rw [ByteArray.data_append, Array.toList_append]
   rfl
  have hn : nameL ((⟨#[110, 115, 58]⟩ : ByteArray) ++ p).data.toList = true := by
   unfold nameL preL locL
   rw [el, colon_ns]
   simp only [List.drop_succ_cons, List.drop_zero, hl, Bool.and_true]
   rfl
  have h1 : preS ((⟨#[110, 115, 58]⟩ : ByteArray) ++ p) = nsS := by
   unfold preS partP
   rw [if_pos hn]
   unfold preL
   rw [el, colon_ns]
   rfl
  have h2 : locS ((⟨#[110, 115, 58]⟩ : ByteArray) ++ p) = p := by
   unfold locS partL
   rw [if_pos hn]
   unfold locL
   rw [el, colon_ns]
   rfl
  unfold declF
  rw [e]
  have h3 : ¬ ((⟨#[110, 115, 58]⟩ : ByteArray) ++ p) = nsS := by
   intro q
   have := congrArg ByteArray.size q
   rw [ByteArray.size_append] at this
   have e3 : (⟨#[110, 115, 58]⟩ : ByteArray).size = 3 := rfl
   have e2 : nsS.size = 2 := rfl
   omega
  rw [if_neg h3, if_pos h1, h2]

def SaidR (l2 sd : List At) : Prop := ∀ p, PreOk p -> lookL l2 p = match lastF sd p with | some x => some x | none => if p.size = 0 then some ⟨#[]⟩ else none

theorem saidR_nil : SaidR [] [] := fun p _ => rfl

theorem last_snoc (sd : List At) (x : At) (q : ByteArray) : lastF (sd ++ [x]) q = (if x.name = q then some x.value else lastF sd q) := by
 unfold lastF
 rw [List.reverse_append]
 simp only [List.reverse_cons, List.reverse_nil, List.nil_append, List.singleton_append, List.find?_cons]
 by_cases h : x.name = q
 ·simp [h]
 ·simp [h]

theorem last_app {sd ad : List At} {q : ByteArray} (h : ∀ x ∈ ad, ¬ x.name = q) : lastF (sd ++ ad) q = lastF sd q := by
 induction ad generalizing sd with
 | nil => rw [List.append_nil]
 | cons x ad ih =>
  rw [show sd ++ x :: ad = (sd ++ [x]) ++ ad by simp, ih (fun y hy => h y (by simp [hy])), last_snoc, if_neg (h x (by simp))]

theorem skip_more {sd : List At} {x : At} {q m : ByteArray} (h : ¬ x.name = q) : skipB (sd ++ [x]) q m = skipB sd q m := by
 unfold skipB
 rw [last_snoc, if_neg h]

noncomputable def newF (ts : List Tk) (k : Nat) (sd : List At) (ps : List ByteArray) : List ByteArray := ps.filter fun p => !skipB sd p (mnF ts k p)

theorem dcl_flat (ts : List Tk) (k : Nat) : ∀ (ps : List ByteArray) (sd : List At) (s : ByteArray), ps.Nodup -> dclL ts k sd s ps = (sd ++ (newF ts k sd ps).map (fun p => ⟨p, mnF ts k p⟩), (newF ts k sd ps).foldl (fun s p => dclS s p (mnF ts k p)) s)
 | [], sd, s, _ => by simp [dclL, newF]
 | p :: ps, sd, s, h => by
  obtain ⟨h1, h2⟩ := List.nodup_cons.1 h
  have e : dclL ts k sd s (p :: ps) = dclL ts k (dclF ts k (sd, s) p).1 (dclF ts k (sd, s) p).2 ps := rfl
  rw [e]
  unfold dclF
  simp only
  cases hq : skipB sd p (mnF ts k p) with
  | true =>
   simp only [if_true]
   rw [dcl_flat ts k ps sd s h2]
   have e2 : newF ts k sd (p :: ps) = newF ts k sd ps := by unfold newF; rw [List.filter_cons, if_neg (by rw [hq]; decide)]
   rw [e2]
  | false =>
   simp only [Bool.false_eq_true, if_false]
   rw [dcl_flat ts k ps _ _ h2]
   have e3 : newF ts k (sd ++ [⟨p, mnF ts k p⟩]) ps = newF ts k sd ps := by
    unfold newF
    refine List.filter_congr fun q hq2 => ?_
    rw [skip_more (fun (e : p = q) => h1 (by rw [e]; exact hq2))]
   have e2 : newF ts k sd (p :: ps) = p :: newF ts k sd ps := by unfold newF; rw [List.filter_cons, if_pos (by rw [hq]; rfl)]
   rw [e2, e3]
   simp

theorem need_skip {ts : List Tk} {k : Nat} {l2 sd : List At} (hr : (outAts ts k).all rightB = true) (hS : SaidR l2 sd) {p : ByteArray} (hp : PreOk p) : needB (outAts ts k) l2 p = !skipB sd p (mnF ts k p) := by
 unfold needB skipB mnF
 rw [meanF_look hr, hS p hp]
 generalize (lookL (outAts ts k) p).getD ⟨#[]⟩ = m
 cases hl : lastF sd p with
 | some x => simp
 | none =>
  by_cases h0 : p.size = 0
  ·simp only [h0, if_true]
   by_cases hm : m.size = 0
   ·rw [empty_of m hm]
    simp
    rfl
   ·have : ¬ (⟨#[]⟩ : ByteArray) = m := fun e => hm (by rw [<- e]; rfl)
    simp only [Option.isSome_some, Option.getD_some, Bool.not_true, Bool.false_or, decide_eq_false this, decide_eq_false hm, decide_true, Bool.and_false]
  ·simp [h0]

theorem esc_mean {m : ByteArray} (h : m.data.toList.all (fun c => sgnS.data.toList.any fun d => decide (d = c)) = true) : escS true m = m := by
 have one : ∀ c : UInt8, (sgnS.data.toList.any fun d => decide (d = c)) = true -> plainB c.toNat = true /\ escB true c = [c] := by
  have key : ∀ n : Fin 256, (sgnS.data.toList.any fun d => decide (d = UInt8.ofNat n.val)) = true -> plainB (UInt8.ofNat n.val).toNat = true /\ escB true (UInt8.ofNat n.val) = [UInt8.ofNat n.val] := by decide +kernel
  intro c hc
  have e : UInt8.ofNat c.toNat = c := by simp
  have := key ⟨c.toNat, c.toNat_lt⟩
  simp only [e] at this
  exact this hc
 have hp : plainL m.data.toList = true := by
  unfold plainL
  rw [List.all_eq_true] at h ⊢
  exact fun c hc => (one c (h c hc)).1
 have he : ∀ l : List UInt8, l.all (fun c => sgnS.data.toList.any fun d => decide (d = c)) = true -> escL true l = l := by
  intro l
  induction l with
  | nil => intro _; rfl
  | cons c l ih =>
   intro hl
   rw [List.all_cons, Bool.and_eq_true] at hl
   show escB true c ++ escL true l = c :: l
   rw [(one c hl.1).2, ih hl.2]
   rfl
 unfold escS escapedL
 rw [if_pos hp, he _ h]

theorem mean_signs {ts : List Tk} {k : Nat} (hr : (outAts ts k).all rightB = true) (p : ByteArray) : (mnF ts k p).data.toList.all (fun c => sgnS.data.toList.any fun d => decide (d = c)) = true := by
 unfold mnF
 rw [meanF_look hr]
 unfold lookL
 cases hf : (outAts ts k).find? (declB p) with
 | none =>
  simp only
  split <;> rfl
 | some x =>
  have h1 := List.mem_of_find?_eq_some hf
  have h2 := List.find?_some hf
  have h3 := List.all_eq_true.1 hr x h1
  unfold declB at h2
  rw [decide_eq_true_eq] at h2
  unfold rightB at h3
  rw [h2] at h3
  simp only [Bool.and_eq_true] at h3
  have h4 := h3.1
  unfold ofB at h4
  rw [Bool.and_eq_true] at h4
  exact h4.1

theorem dclS_at {s p m : ByteArray} (h : escS true m = m) : dclS s p m = s ++ atS ⟨nmD p, m⟩ := by
 unfold dclS atS
 simp only [h]
 apply ByteArray.ext
 simp only [ByteArray.data_append, Array.append_assoc]

theorem fold_dcl {ts : List Tk} {k : Nat} (hr : (outAts ts k).all rightB = true) : ∀ (F : List ByteArray) (s : ByteArray), F.foldl (fun s p => dclS s p (mnF ts k p)) s = atsS (F.map fun p => ⟨nmD p, mnF ts k p⟩) s
 | [], s => rfl
 | p :: F, s => by
  rw [List.foldl_cons, List.map_cons, dclS_at (esc_mean (mean_signs hr p)), fold_dcl hr F]
  rfl

theorem SaidR.next {ts : List Tk} {k : Nat} {l2 sd : List At} (hS : SaidR l2 sd) {F : List ByteArray} (hF : F.Nodup) (hp : ∀ p ∈ F, PreOk p) : SaidR ((F.map fun p => (⟨nmD p, mnF ts k p⟩ : At)) ++ l2) (sd ++ F.map fun p => ⟨p, mnF ts k p⟩) := by
 induction F generalizing l2 sd with
 | nil => simpa using hS
 | cons p F ih =>
  obtain ⟨h1, h2⟩ := List.nodup_cons.1 hF
  intro q hq
  by_cases e : q = p
  ·subst e
   have hd : declB q ⟨nmD q, mnF ts k q⟩ = true := by unfold declB; rw [nmD_decl hq]; simp
   have e1 : lookL (((q :: F).map fun p => (⟨nmD p, mnF ts k p⟩ : At)) ++ l2) q = some (mnF ts k q) := by
    unfold lookL
    rw [List.map_cons, List.cons_append, List.find?_cons, hd]
   have e2 : lastF (sd ++ (q :: F).map fun p => (⟨p, mnF ts k p⟩ : At)) q = some (mnF ts k q) := by
    rw [List.map_cons, show ∀ (a : At) (l : List At), sd ++ a :: l = (sd ++ [a]) ++ l from fun a l => by simp, last_app (fun x hx => ?_), last_snoc, if_pos rfl]
    obtain ⟨z, hz, rfl⟩ := List.mem_map.1 hx
    exact fun e => h1 (by rw [<- e]; exact hz)
   rw [e1, e2]
  ·have hd : declB q ⟨nmD p, mnF ts k p⟩ = false := by
    unfold declB
    rw [nmD_decl (hp p (by simp))]
    simp [Ne.symm e]
   have e1 : lookL (((p :: F).map fun p => (⟨nmD p, mnF ts k p⟩ : At)) ++ l2) q = lookL ((F.map fun p => (⟨nmD p, mnF ts k p⟩ : At)) ++ l2) q := by
    unfold lookL
    rw [List.map_cons, List.cons_append, List.find?_cons, hd]
   have e2 : lastF (sd ++ (p :: F).map fun p => (⟨p, mnF ts k p⟩ : At)) q = lastF (sd ++ F.map fun p => (⟨p, mnF ts k p⟩ : At)) q := by
    have key : ∀ (l : List At) (sd : List At), lastF ((sd ++ [⟨p, mnF ts k p⟩]) ++ l) q = lastF (sd ++ l) q := by
     intro l
     induction l using List.reverseRecOn' with
     | nil => intro sd; rw [List.append_nil, List.append_nil, last_snoc, if_neg (fun h => e h.symm)]
     | snoc l x ih2 => intro sd; rw [<- List.append_assoc, <- List.append_assoc, last_snoc, last_snoc, ih2]
    rw [List.map_cons, show ∀ (a : At) (l : List At), sd ++ a :: l = (sd ++ [a]) ++ l from fun a l => by simp, key]
   rw [e1, e2]
   exact ih hS h2 (fun z hz => hp z (by simp [hz])) q hq
where
 List.reverseRecOn' {α : Type} {motive : List α -> Prop} (l : List α) (nil : motive []) (snoc : ∀ l x, motive l -> motive (l ++ [x])) : motive l := by
  rw [<- List.reverse_reverse l]
  induction l.reverse with
  | nil => exact nil
  | cons x r ih => rw [List.reverse_cons]; exact snoc _ _ ih

theorem lt_ahead {ts : List Tk} {k : Nat} (hr : (outAts ts k).all rightB = true) : ltA (outAts ts k) = aheadF ts k := by
 funext x y
 unfold ltA cmpA
 rw [mnL_mean hr, mnL_mean hr]
 exact cmpN_ahead

theorem oth_sort (ts : List Tk) (k : Nat) (l : List At) : othL ts k l = sortG (aheadF ts k) (l.filter nodeclB) := by
 unfold othL sortG
 have key : ∀ (l m : List At), l.foldl (accB ts k) m = (l.filter nodeclB).foldl (insG (aheadF ts k)) m := by
  intro l
  induction l with
  | nil => intro m; rfl
  | cons x l ih =>
   intro m
   rw [List.foldl_cons, List.filter_cons]
   cases hq : nodeclB x with
   | true =>
    have h1 : (declF x).isSome = false := by unfold nodeclB at hq; simpa using hq
    rw [if_pos rfl, List.foldl_cons, accB_put h1, ih]
    rfl
   | false =>
    have h1 : (declF x).isSome = true := by unfold nodeclB at hq; simpa using hq
    rw [if_neg Bool.false_ne_true, accB_no h1, ih]
 exact key l []

def notB (but : Int) (j : Nat) : Bool := !decide ((j : Int) = but)

theorem fold_cat (g : Nat -> ByteArray) (but : Int) (l : List Nat) (s : ByteArray) (hb : ∀ j : Nat, (j : Int) = but -> g j = ⟨#[]⟩) : l.foldl (fun s j => s ++ g j) s = s ++ catL ((l.filter (notB but)).map g) := by
 have app_nil : ∀ s : ByteArray, s ++ (⟨#[]⟩ : ByteArray) = s := fun s => by apply ByteArray.ext; simp [ByteArray.data_append]
 have cat_from : ∀ (ss : List ByteArray) (s : ByteArray), ss.foldl (fun s x => s ++ x) s = s ++ catL ss := by
  intro ss
  induction ss with
  | nil => intro s; exact (app_nil s).symm
  | cons x ss ih =>
   intro s
   unfold catL
   rw [List.foldl_cons, List.foldl_cons, ih, ih (⟨#[]⟩ ++ x)]
   apply ByteArray.ext
   simp [ByteArray.data_append, Array.append_assoc]
 induction l generalizing s with
 | nil => exact (app_nil s).symm
 | cons j l ih =>
  rw [List.foldl_cons, ih, List.filter_cons]
  by_cases h : (j : Int) = but
  ·rw [hb j h, if_neg (by unfold notB; rw [decide_eq_true h]; decide), app_nil]
  ·rw [if_pos (by unfold notB; rw [decide_eq_false h]; rfl), List.map_cons]
   conv => rhs; unfold catL
   rw [List.foldl_cons, cat_from]
   apply ByteArray.ext
   simp [ByteArray.data_append, Array.append_assoc]

structure ElIs (ts : List Tk) (but : Int) (f k : Nat) (sd l2 : List At) (t : Tk) (O D : List At) (ss : List ByteArray) : Prop where
 text : canonN ts but (f + 1) k sd = elS t.name D O ss
 said : SaidR (D ++ l2) (saidL ts k sd t)
 osz : AtSz 1048576 O
 olen : O.length <= 6
 dsz : AtSz 1048576 D
 dlen : D.length <= 7
 psz : ∀ p ∈ needL t.name O, p.size <= 1048576
 plen : (needL t.name O).length <= 12

theorem el_is {ts : List Tk} {but : Int} {f k : Nat} {sd l2 : List At} {t : Tk} (hT : TreeP ts) (hz : TksSz 1048576 ts) (ht : nodeAt ts k = t) (hb : ¬ (k : Int) = but) (hne : ¬ t.name.size = 0) (hr : (outAts ts k).all rightB = true) (hS : SaidR l2 sd) {O D : List At} {ss : List ByteArray}
  (hO : sortG (ltA (outAts ts k)) (t.attrs.filter nodeclB) = O) (hD : dclP (outAts ts k) l2 (needL t.name O) = D) (hss : ((kidsN ts k).filter (notB but)).map (fun j => canonN ts but f j (saidL ts k sd t)) = ss) :
  ElIs ts but f k sd l2 t O D ss := by
 have hsz : TkSz 1048576 t := by rw [<- ht]; exact nodeAt_sz hz k
 have h6 : t.attrs.length <= 6 := by rw [<- ht]; exact six_at hT k (by rw [ht]; exact hne)
 have eO : othL ts k t.attrs = O := by rw [oth_sort, <- lt_ahead hr]; exact hO
 have hmO : ∀ x, x ∈ O ↔ x ∈ t.attrs.filter fun x => !(declF x).isSome := by
  intro x
  rw [<- hO]
  exact (sort_all (by rw [lt_ahead hr]; exact ahead_ord ts k) _).2.2 x
 have hP : needL t.name O = preL7 t.name t.attrs := need_is hmO
 obtain ⟨c1, c2⟩ := pre_strict t.name t.attrs
 have hnd : (preL7 t.name t.attrs).Nodup := c1.imp fun {a b} h e => by rw [e, ltB_irr] at h; cases h
 have hok : ∀ p ∈ preL7 t.name t.attrs, PreOk p := fun p hp => by
  rcases (c2 p).1 hp with rfl | ⟨x, _, _, rfl⟩
  ·exact preS_ok _
  ·exact preS_ok _
 obtain ⟨p1, p2, p3⟩ := preL7_all (nm := t.name) (b := 1048576) (preS_sz hsz.1) t.attrs (fun x hx => preS_sz (hsz.2.2.1 x hx).1)
 obtain ⟨o1, o2⟩ := othL_all (ts := ts) (k := k) t.attrs
 have eN : (preL7 t.name t.attrs).filter (needB (outAts ts k) l2) = newF ts k sd (preL7 t.name t.attrs) := by
  unfold newF
  exact List.filter_congr fun p hp => need_skip hr hS (hok p hp)
 have eD : D = (newF ts k sd (preL7 t.name t.attrs)).map fun p => ⟨nmD p, mnF ts k p⟩ := by
  rw [<- hD, hP]
  unfold dclP
  rw [eN]
  refine List.map_congr_left fun p _ => ?_
  unfold mnF
  rw [meanF_look hr]
 have hfl := dcl_flat ts k (preL7 t.name t.attrs) sd ((⟨#[60]⟩ : ByteArray) ++ t.name) hnd
 have hnF : (newF ts k sd (preL7 t.name t.attrs)).Nodup := hnd.filter _
 have hokF : ∀ p ∈ newF ts k sd (preL7 t.name t.attrs), PreOk p := fun p hp => hok p (List.mem_filter.1 hp).1
 refine ⟨?_, ?_, ?_, ?_, ?_, ?_, ?_, ?_⟩
 ·rw [canonN_el ht hb hne, fold_cat _ but _ _ (fun j hj => by
   cases f with
   | zero => rfl
   | succ f' => exact canonN_but hj), hss]
  unfold headS elS
  rw [hfl, eO]
  simp only
  rw [fold_dcl hr, <- eD, atsS_app O, atsS_app D]
 ·unfold saidL
  rw [hfl, eD]
  exact hS.next hnF hokF
 ·intro x hx
  rw [<- eO] at hx
  exact hsz.2.2.1 x (o2 x hx)
 ·rw [<- eO]; omega
 ·intro x hx
  rw [eD] at hx
  obtain ⟨p, hp, rfl⟩ := List.mem_map.1 hx
  have := preOk_sz (hokF p hp)
  have h2 := nmD_size p
  exact ⟨by show (nmD p).size <= _; omega, meanF_sz hz p⟩
 ·rw [eD, List.length_map]
  have := List.length_filter_le (fun p => !skipB sd p (mnF ts k p)) (preL7 t.name t.attrs)
  unfold newF
  omega
 ·rw [hP]; exact p3
 ·rw [hP]; omega

end Go.Proofs.YtoioiddjbanahaaGreatDoor

namespace Go.Proofs.YtoioiddjbanahaaGreatDoor

open Go.RowKit

def NodeC (ts : List Tk) (a : Option Addr) (cap : Nat) (but : Int) (f : Nat) : Prop :=
 ∀ (k : Nat) (sd l2 pl : List At) (F F2 : FuncId) (C C2 : Array Value) (w : World), TkRow w a ts -> k < ts.length -> ts.length <= f + k -> ¬ (k : Int) = but -> outAts ts k = (nodeAt ts k).attrs ++ pl -> SaidR l2 sd -> Asks F C w pl -> Asks F2 C2 w l2 ->
  Calls Tryz.prog 119 #[.agg #[.slice a ts.length cap, .int .i64 but], .int .i64 (k : Int), .func (.func F) #[] C, .func (.func F2) #[] C2] w fun e w' =>
   ∃ v, e = .returned v /\ ShAt (fun g => w.heap.size <= g) w' f v (canonN ts but f k sd) /\ Below w.heap.size w w'

def ShRow (w : World) (B f : Nat) (a : Option Addr) (c : Nat) (ss : List ByteArray) : Prop := ∃ us : List Value, us.length = ss.length /\ w.ownsRow B 168 1 (.slice a ss.length c) ss.length us /\
 ∀ i (h : i < ss.length) u, us[i]? = some u -> ShAt (fun g => B <= g /\ ¬ (Value.slice a ss.length c).ownBlock = some g) w f u ss[i]

theorem ShRow.nil (w : World) (B f : Nat) : ShRow w B f none 0 [] := ⟨[], rfl, World.ownsRow_nil _ _ _ _, fun i h => absurd h (Nat.not_lt_zero _)⟩

theorem ShAt.cell {X : Nat -> Prop} {w : World} {f : Nat} {v : Value} {s : ByteArray} (h : ShAt X w f v s) : v.oneCell' = true := by
 cases f with
 | zero => exact h.elim
 | succ f =>
  obtain ⟨_, ⟨t, rfl, _⟩ | ⟨_, _, _, _, _, _, _, _, _, _, rfl, _⟩⟩ := h <;> rfl

theorem ShAt.face {X : Nat -> Prop} {w : World} {f : Nat} {v : Value} {s : ByteArray} (h : ShAt X w f v s) : ∃ T x, v = .iface T x := by
 cases f with
 | zero => exact h.elim
 | succ f =>
  obtain ⟨_, ⟨t, rfl, _⟩ | ⟨_, _, _, _, _, _, _, _, _, _, rfl, _⟩⟩ := h
  ·exact ⟨_, _, rfl⟩
  ·exact ⟨_, _, rfl⟩

theorem ShRow.kids {w : World} {B f : Nat} {a : Option Addr} {c : Nat} {ss : List ByteArray} (h : ShRow w B f a c ss) : KidsAt (fun g => B <= g) w f a ss := by
 obtain ⟨us, h1, h2, h3⟩ := h
 intro i hi
 rcases h2.2 with ⟨_, h0⟩ | ⟨g, cap, cur, e, q1, q2, q3, q4, q5, q6⟩
 ·omega
 ·injection e with e1 e2 e3
  subst e1
  have hu : us[i]? = some us[i] := List.getElem?_eq_getElem (by omega)
  have hc := World.ownsRow.cellAt h2 i (by omega)
  refine ⟨g, 0, us[i], rfl, q1, lt_of_heap q2, by rw [Nat.zero_add, hc]; exact hu, (h3 i hi _ hu).keep (fun _ _ h => h.1) (Nat.le_refl _) (fun _ _ _ => rfl)⟩

theorem ShRow.more {W w' : World} {B f : Nat} {a : Option Addr} {c : Nat} {ss : List ByteArray} {us : List Value} {u v' : Value} {s : ByteArray} (h1 : us.length = ss.length) (h3 : ∀ i (h : i < ss.length) u, us[i]? = some u -> ShAt (fun g => B <= g /\ ¬ (Value.slice a ss.length c).ownBlock = some g) W f u ss[i])
  (hu : ShAt (fun g => B <= g /\ ¬ (Value.slice a ss.length c).ownBlock = some g) W f u s) (hown : w'.ownsRow B 168 1 v' (ss.length + 1) (us ++ [u])) (hg : W.grownBy w' (Value.slice a ss.length c).ownBlock) (hat : v'.ownBlock = (Value.slice a ss.length c).ownBlock \/ v'.ownBlock = some W.heap.size) :
  ∃ a' c', v' = .slice a' (ss ++ [s]).length c' /\ ShRow w' B f a' c' (ss ++ [s]) := by
 have e2 : (ss ++ [s]).length = ss.length + 1 := by simp
 have keepA : ∀ {x : Value} {y : ByteArray}, ShAt (fun g => B <= g /\ ¬ (Value.slice a ss.length c).ownBlock = some g) W f x y -> ShAt (fun g => B <= g /\ ¬ v'.ownBlock = some g) w' f x y := fun h =>
  h.keep (fun g hg2 hX => ⟨hX.1, fun e => by
   rcases hat with q | q
   ·exact hX.2 (q ▸ e)
   ·rw [q] at e; injection e with e; omega⟩) hg.size (fun g hg2 hX => hg.block g hg2 (fun e => hX.2 e.symm))
 rcases hown.2 with ⟨_, h0⟩ | ⟨g, c', cu, hv, hr⟩
 ·omega
 ·refine ⟨some ⟨g, 0, none⟩, c', by rw [e2]; exact hv, us ++ [u], by simp [h1], by rw [e2, <- hv]; exact hown, fun i hi x hx => ?_⟩
  rw [e2, <- hv]
  by_cases hl : i < ss.length
  ·rw [List.getElem?_append_left (by omega)] at hx
   rw [List.getElem_append_left hl]
   exact keepA (h3 i hl x hx)
  ·have hi' : i = ss.length := by rw [e2] at hi; omega
   subst hi'
   rw [List.getElem?_append_right (by omega), h1, Nat.sub_self] at hx
   cases hx
   simp only [List.getElem_append_right (Nat.le_refl _), Nat.sub_self, List.getElem_cons_zero]
   exact keepA hu

noncomputable def kidSS (ts : List Tk) (but : Int) (f : Nat) (sd : List At) (l : List Nat) : List ByteArray := (l.filter (notB but)).map fun j => canonN ts but f j sd

theorem kidSS_next (ts : List Tk) (but : Int) (f : Nat) (sd : List At) {l : List Nat} {i : Nat} (h : i < l.length) : kidSS ts but f sd (l.take (i + 1)) = kidSS ts but f sd (l.take i) ++ (if ((l[i] : Nat) : Int) = but then [] else [canonN ts but f l[i] sd]) := by
 unfold kidSS
 rw [take_snocN h, List.filter_append, List.map_append]
 congr 1
 by_cases hq : ((l[i] : Nat) : Int) = but
 ·rw [if_pos hq, List.filter_cons, if_neg (by unfold notB; rw [decide_eq_true hq]; decide)]
  rfl
 ·rw [if_neg hq, List.filter_cons, if_pos (by unfold notB; rw [decide_eq_false hq]; rfl)]
  rfl

theorem infoSh : (Tryz.prog.info? 168).map (fun i => (i.zero, i.size, i.bytes)) = some (some .nilIface, 1, 16) := by kernel_rfl

theorem kid_out {ts : List Tk} (hT : TreeP ts) {k j : Nat} (hj : j ∈ kidsN ts k) : j < ts.length /\ k < j /\ outAts ts j = (nodeAt ts j).attrs ++ outAts ts k := by
 have h1 := kidsN_lt hj
 have h2 := (List.mem_filter.1 hj).2
 simp only [Bool.and_eq_true, decide_eq_true_eq] at h2
 have ht : ts[j]? = some ts[j] := List.getElem?_eq_getElem h1
 obtain ⟨p, hp, hpk, _, e⟩ := outAts_up hT ht (by omega)
 have e1 : parI ts j = ts[j].kind := by unfold parI; rw [ht]
 have : p = k := by rw [<- e1, h2.2] at hp; omega
 subst this
 exact ⟨h1, h2.1, by rw [nodeAt_at h1]; exact e⟩

def IntR (w : World) (a : Option Addr) (l : List Nat) : Prop := ∀ j (h : j < l.length), ∃ b o, a = some ⟨b, o, none⟩ /\ b < w.heap.size /\ w.cell? ⟨b, o + j, none⟩ = some (.int .i64 (l[j] : Int))

theorem has_of {ts : List Tk} {k : Nat} (hT : TreeP ts) (hk : k < ts.length) : hasB ts (k : Int) = true := by
 rw [hasB_eq rfl, treeB_t hT, decide_eq_true (by omega), decide_eq_true (by omega)]
 rfl

theorem IntR.below {w w' : World} {a : Option Addr} {l : List Nat} (h : IntR w a l) (hb : Below w.heap.size w w') : IntR w' a l := by
 intro j hj
 obtain ⟨b, o, ha, hlt, c⟩ := h j hj
 exact ⟨b, o, ha, Nat.lt_of_lt_of_le hlt hb.size, (hb.cell (p := ⟨b, o + j, none⟩) hlt).trans c⟩

theorem IntR.of {w : World} {B : Nat} {v : Value} {l : List Nat} (h : w.ownsRow B 2 1 v l.length (intC l)) : ∃ a cap, v = .slice a l.length cap /\ IntR w a l := by
 rcases h.2 with ⟨rfl, h0⟩ | ⟨g, cap, cur, rfl, hg, hh, hn, hc, hs, ht⟩
 ·have : l = [] := List.eq_nil_of_length_eq_zero h0
  subst this
  exact ⟨none, 0, rfl, fun j hj => absurd hj (Nat.not_lt_zero _)⟩
 ·refine ⟨_, _, rfl, fun j hj => ⟨g, 0, rfl, lt_of_heap hh, ?_⟩⟩
  have hc := World.ownsRow.cellAt (show w.ownsRow B 2 1 (.slice (some ⟨g, 0, none⟩) l.length cap) l.length (intC l) from ⟨h.1, .inr ⟨g, cap, cur, rfl, hg, hh, hn, hc, hs, ht⟩⟩) j (by omega)
  rw [Nat.zero_add, hc]
  unfold intC
  rw [List.getElem?_map, List.getElem?_eq_getElem hj]
  rfl

set_option maxRecDepth 8000 in
set_option maxHeartbeats 4000000 in
theorem cInside (ts : List Tk) (a : Option Addr) (cap : Nat) (but : Int) (f : Nat) (CN : NodeC ts a cap but f) (hT : TreeP ts) (hz : TksSz 1048576 ts) (k : Nat) (sd l2 : List At) (F F2 : FuncId) (C C2 : Array Value) (w : World) (hR : TkRow w a ts) (hk : k < ts.length) (hf : ts.length <= f + k + 1) (hS : SaidR l2 sd) (hA : Asks F C w (outAts ts k)) (hA2 : Asks F2 C2 w l2) :
  Calls Tryz.prog 165 #[.agg #[.slice a ts.length cap, .int .i64 but], .int .i64 (k : Int), .func (.func F) #[] C, .func (.func F2) #[] C2] w fun e w' =>
   ∃ a3 c3, e = .returned (.slice a3 (kidSS ts but f sd (kidsN ts k)).length c3) /\ KidsAt (fun g => w.heap.size <= g) w' f a3 (kidSS ts but f sd (kidsN ts k)) /\ Below w.heap.size w w' := by
 have h50 : ts.length <= 50 := hT.2.1
 obtain ⟨i0, hi, hz0, hz1, hz2⟩ := info_parts infoSh
 have HI := hid (And.intro hi (And.intro hz0 (And.intro hz1 hz2)))
 clear hi hz0 hz1 hz2
 have HB0 := hid ((Below.refl w.heap.size w).alloc (Nat.le_refl _) (.cells #[.slice a ts.length cap, .int .i64 but] 170))
 have M0 := hid (heap_alloc_new w (.cells #[.slice a ts.length cap, .int .i64 but] 170))
 have CK := hid (fun wx (hb : Below w.heap.size w wx) => cKidsOfI a cap ts (k : Int) wx (hR.below hb) (by omega) hz)
 have hki : kidsI ts (k : Int) = kidsN ts k := by
  unfold kidsI
  rw [if_pos (has_of hT hk)]
  rfl
 rw [hki] at CK
 have HKM := hid (show ∀ j ∈ kidsN ts k, j < ts.length /\ k < j /\ outAts ts j = (nodeAt ts j).attrs ++ outAts ts k from fun j hj => kid_out hT hj)
 have HKL := hid (show (kidsN ts k).length <= 50 from Nat.le_trans (kidsTo_len ts k ts.length) h50)
 have CC := hid (fun (j : Nat) (hj : j ∈ kidsN ts k) (hne : ¬ (j : Int) = but) (wx : World) (hb : Below w.heap.size w wx) => CN j sd l2 (outAts ts k) F F2 C C2 wx (hR.below hb) (HKM.out j hj).1 (by have := (HKM.out j hj).2.1; omega) hne (HKM.out j hj).2.2 hS (hA.below hb) (hA2.below hb))
 have HNX := hid (fun (i : Nat) (h : i < (kidsN ts k).length) => kidSS_next ts but f sd h)
 have HSZ := hid (show kidSS ts but f sd ((kidsN ts k).take 0) = [] from rfl)
 have HLE := hid (show ∀ i, (kidSS ts but f sd ((kidsN ts k).take i)).length <= i from fun i => by
  unfold kidSS
  rw [List.length_map]
  have h1 := List.length_filter_le (notB but) ((kidsN ts k).take i)
  rw [List.length_take] at h1
  omega)
 have HFIN := hid (show kidSS ts but f sd ((kidsN ts k).take (kidsN ts k).length) = kidSS ts but f sd (kidsN ts k) by rw [List.take_length])
 obtain ⟨S, hS'⟩ : ∃ S, kidSS ts but f sd (kidsN ts k) = S := ⟨_, rfl⟩
 rw [hS'] at HFIN ⊢
 obtain ⟨KS, hKS⟩ : ∃ KS, kidsN ts k = KS := ⟨_, rfl⟩
 rw [hKS] at CK HKL CC HNX HSZ HLE HFIN
 clear hki HKM hKS hS' CN hz hR hS hA hA2 hT hk hf h50
 generalize ts.length = tn at *
 go_enter Tryz.func165, Tryz.ntmps165
 go_wp2_with fail
 refine (CK.out _ HB0.out).mono ?_
 rintro e w2 ⟨vk, rfl, hok, hb2⟩
 obtain ⟨ak, ck, rfl, hik⟩ := IntR.of hok
 have HIK := hid hik
 have HB2 := hid (bb HB0.out hb2)
 have M2 := hid (blk_below M0.out hb2)
 clear hok hik hb2 CK HB0 M0
 obtain ⟨n, hnn⟩ : ∃ n, KS.length = n := ⟨_, rfl⟩
 have HN := hid hnn
 have hn : n <= 50 := by rw [<- hnn]; exact HKL.out
 rw [hnn] at HFIN ⊢
 clear hnn HKL
 go_wp2_with fail
 go_loopw [9, 17] (fun v9 v17 wr => ∃ (j : Nat) (a8 : Option Addr) (c8 : Nat) (ss : List ByteArray), v17 = .int .i64 (j : Int) /\ j <= n /\ v9 = .slice a8 ss.length c8 /\ ss.length <= j /\ Hid (ss = kidSS ts but f sd (KS.take j)) /\ Hid (ShRow wr w2.heap.size f a8 c8 ss) /\ Hid (Below w2.heap.size w2 wr)) (fun _ v17 _ => n - (intOf v17).toNat)
 case atStart => exact ⟨0, none, 0, [], rfl, Nat.zero_le _, rfl, Nat.zero_le _, HSZ.out.symm, ShRow.nil _ _ _, Below.refl _ _⟩
 case round =>
  obtain ⟨j, a8, c8, ss, rfl, hj, rfl, hss, HK, HSR, HB⟩ := hrel
  obtain ⟨⟨d0, d1⟩, _⟩ := box2e (blk_below M2.out HB.out)
  by_cases hjl : j < n
  ·have hjt : j < KS.length := by rw [HN.out]; exact hjl
   have hjn : (j : Int) < (n : Int) := by omega
   obtain ⟨b, o, rfl, hb, c1⟩ := (HIK.out.below HB.out) j hjt
   have HTS := hid (HNX.out j hjt)
   rw [<- HK.out] at HTS
   have HCJ := hid (CC.out KS[j] (List.getElem_mem hjt))
   obtain ⟨q, hq⟩ : ∃ q, KS[j] = q := ⟨_, rfl⟩
   rw [hq] at c1 HTS HCJ
   clear hq
   have HBW := hid (show Below w.heap.size w wr from HB2.out.trans (HB.out.mono HB2.out.size))
   by_cases hqb : (q : Int) = but
   ·have hd : ((q : Int) != but) = false := by simp [hqb]
    have HE := hid (show ss = kidSS ts but f sd (KS.take (j + 1)) by rw [HTS.out, if_pos hqb, List.append_nil])
    clear hqb HCJ
    obtain ⟨nk, hnk⟩ : ∃ nk, ss.length = nk := ⟨_, rfl⟩
    have HNK := hid hnk
    rw [hnk] at hss ⊢
    clear hnk
    go_wp2_with fail
    go_roundw
    case rel => exact ⟨j + 1, a8, c8, ss, by go_num, by omega, by rw [HNK.out], by rw [HNK.out]; omega, HE.out, HSR.out, HB.out⟩
    case measure => simp [intOf]; omega
   ·have hd : ((q : Int) != but) = true := by simp [hqb]
    have HE := hid (show ss ++ [canonN ts but f q sd] = kidSS ts but f sd (KS.take (j + 1)) by rw [HTS.out, if_neg hqb])
    have HU := hid (HCJ.out hqb wr HBW.out)
    generalize canonN ts but f q sd = y at *
    clear hqb HCJ
    obtain ⟨us, u1, u2, u3⟩ := HSR.out
    have HUS := hid u1
    have HO := hid u2
    have HU3 := hid u3
    clear u1 u2 u3 HSR
    obtain ⟨nk, hnk⟩ : ∃ nk, ss.length = nk := ⟨_, rfl⟩
    have HNK := hid hnk
    rw [hnk] at hss HO ⊢
    clear hnk
    have HLT := hid (show ∀ x, (Value.slice a8 nk c8).ownBlock = some x -> x < wr.heap.size from fun x hx => (HO.out.lt x hx).2)
    go_wp2_with fail
    refine HU.out.mono ?_
    rintro e w3 ⟨vs, rfl, hvs, hb3⟩
    obtain ⟨VT, vx, rfl⟩ := hvs.face
    have HB3 := hid (bb HB.out hb3)
    have HO3 := hid (ownsRow_below HO.out hb3)
    have HB4 := hid ((Below.refl w3.heap.size w3).alloc (Nat.le_refl _) (.cells #[.iface VT vx] 168))
    have HVC := hid (show ∀ u ∈ [Value.iface VT vx], u.oneCell' = true from fun u hu => by rw [List.mem_singleton.1 hu]; exact hvs.cell)
    have HV4 := hid (show ShAt (fun g => w2.heap.size <= g /\ ¬ (Value.slice a8 nk c8).ownBlock = some g) (w3.alloc (.cells #[.iface VT vx] 168)) f (.iface VT vx) y from
     hvs.keep (fun g _ hX => ⟨Nat.le_trans HB.out.size hX, fun e => by have := HLT.out g e; omega⟩) HB4.out.size (fun g hg _ => HB4.out.block g hg))
    have HU4 := hid (show ∀ i (h : i < ss.length) u, us[i]? = some u -> ShAt (fun g => w2.heap.size <= g /\ ¬ (Value.slice a8 ss.length c8).ownBlock = some g) (w3.alloc (.cells #[.iface VT vx] 168)) f u ss[i] from fun i h u hu => ((HU3.out i h u hu).below hb3).below HB4.out)
    have hsz := HB3.out.size
    clear hb3 hvs HU HO HU3 HLT d0 d1 c1
    go_wp2_with (at_builtin; refine wpList_append_own_at _ rfl _ _ 198 rfl w2.heap.size 168 i0 .nilIface 1 16 Tryz.underlying198 HI.out.1 HI.out.2.1 HI.out.2.2.1 HI.out.2.2.2 rfl (by decide) _ _ _ rfl (HO3.out.alloc _) ⟨w3.heap.size, 0, none⟩ 1 1 [.iface VT vx] rfl rfl (one_cell _ _ _) HVC.out (by unfold maxLen; omega) (by omega) (by simp; omega) ?_)
    intro v' w7 hown' hgrow _ hat
    have HB7 := hid ((HB3.out.alloc hsz _).grown hgrow (by simp; omega) (fun k hk => (HO3.out.lt k hk).1))
    rw [<- HNK.out] at hown' hgrow hat HV4
    obtain ⟨a9, c9, rfl, ho9⟩ := ShRow.more HUS.out HU4.out HV4.out hown' hgrow (by rw [show (w3.alloc (.cells #[Value.iface VT vx] 168)).heap.size = w3.heap.size + 1 by simp]; exact hat)
    have HO9 := hid ho9
    clear hown' hgrow ho9 hat
    have HL9 := hid (show (ss ++ [y]).length <= j + 1 by rw [List.length_append, HNK.out]; show _ + 1 <= _; omega)
    generalize ss ++ [y] = ss9 at *
    go_wp2_with fail
    go_roundw
    case rel => exact ⟨j + 1, a9, c9, ss9, by go_num, by omega, rfl, HL9.out, HE.out, HO9.out, HB7.out⟩
    case measure => simp [intOf]; omega
  ·have hjn : j = n := by omega
   subst hjn
   have HE := hid (show ss = S by rw [<- HFIN.out]; exact HK.out)
   have HBW := hid (show Below w.heap.size w wr from HB2.out.trans (HB.out.mono HB2.out.size))
   have HKD := hid (show KidsAt (fun g => w.heap.size <= g) wr f a8 S from by
    rw [<- HE.out]
    intro i hi
    obtain ⟨g, o, u, q1, q2, q3, q4, q5⟩ := HSR.out.kids i hi
    exact ⟨g, o, u, q1, Nat.le_trans HB2.out.size q2, q3, q4, q5.keep (fun _ _ h => Nat.le_trans HB2.out.size h) (Nat.le_refl _) (fun _ _ _ => rfl)⟩)
   have HLN := hid (show ss.length = S.length by rw [HE.out])
   generalize ss.length = nk at *
   clear d0 d1
   go_wp2_with fail
   go_ret
   exact ⟨a8, c8, by rw [<- HLN.out]; rfl, HKD.out, HBW.out⟩

end Go.Proofs.YtoioiddjbanahaaGreatDoor
