/- The reader of a letter in the program: contract of remark, where there is none. Scopes of four and of five labels. Contract of l7Tag of the specification: a closing tag. A row of nodes that grows, every list of it in a block of its own. -/
import Derived.Test.YteninofjeidljaaGreatM11
import Derived.Test.YteninofjeidljaaGreatM1
import Derived.Test.YteninofjeidljaaGreatM9
import Derived.Test.YteninofjeidljaaGreatM3
import Derived.Test.YteninofjeidljaaGreatM8
namespace Go.Proofs.YteninofjeidljaaGreat

open Go.RowKit

set_option linter.unusedVariables false

set_option linter.unusedSimpArgs false

set_option maxRecDepth 8000 in
set_option maxHeartbeats 4000000 in
theorem cRemarkNo (B g : Nat) (s : ByteArray) (p m : Nat) (tx : ByteArray) (v : Value) (es : List Tn.E) (w : World) (h : RdT w B g s p m tx v es) (hp : p ≤ s.size) (hs : s.size ≤ 4000) (h0 : ¬ (sgnAt s p = 45 ∧ sgnAt s (p + 1) = 45)) :
    Calls Tryz.prog 146 #[.pointer (some ⟨g, 0, none⟩)] w fun x w' => x = .returned (.bool false) ∧ Below g w w' := by
  have HT := hid h
  have CN := hid (cNext g s p m tx v w h.rdr (by omega) (by omega))
  have hgl := lt_of_heap h.rdr.heap
  clear h
  by_cases h1 : sgnAt s p = 45
  · have h2 : ¬ sgnAt s (p + 1) = 45 := fun e => h0 ⟨h1, e⟩
    have hne : (((sgnAt s (p + 1) : Nat) : Int) != 45) = true := by simp; omega
    rw [h1] at CN
    have CN2 := hid (fun wx (hr : Rdr wx g s (p + 1) m tx v) => cNext g s (p + 1) m tx v wx hr (by omega) (by omega))
    clear h0 h1 h2
    generalize sgnAt s (p + 1) = S2 at *
    go_enter Tryz.func146, Tryz.ntmps146
    go_wp2_with fail
    refine wp_scope_straight ?_
    go_wp2_with fail
    refine CN.out.mono ?_
    rintro e w0 ⟨rfl, hr0, hk0⟩
    have HB0 := hid (hk0.below (Nat.le_of_lt hgl) (fun k e => by rw [e]; exact Nat.le_refl _))
    have HG0 := hid (lt_of_heap hr0.heap)
    have CN3 := hid (CN2.out _ hr0)
    clear hr0 hk0 CN CN2
    go_wp2_with fail
    refine CN3.out.mono ?_
    rintro e w1 ⟨rfl, hr1, hk1⟩
    have HB1 := hid (HB0.out.trans (hk1.below (Nat.le_of_lt HG0.out) (fun k e => by rw [e]; exact Nat.le_refl _)))
    clear hr1 hk1 CN3
    go_wp2_with fail
    simp only [Exit.noGoto]
    go_ret
    exact ⟨rfl, HB1.out⟩
  · have hne : (((sgnAt s p : Nat) : Int) != 45) = true := by simp; omega
    clear h0 h1
    generalize sgnAt s p = S1 at *
    go_enter Tryz.func146, Tryz.ntmps146
    go_wp2_with fail
    refine wp_scope_straight ?_
    go_wp2_with fail
    refine CN.out.mono ?_
    rintro e w0 ⟨rfl, hr0, hk0⟩
    have HB0 := hid (hk0.below (Nat.le_of_lt hgl) (fun k e => by rw [e]; exact Nat.le_refl _))
    clear hr0 hk0 CN
    go_wp2_with fail
    simp only [Exit.noGoto]
    go_ret
    exact ⟨rfl, HB0.out⟩

end Go.Proofs.YteninofjeidljaaGreat

namespace Go.Proofs.YteninofjeidljaaGreat

open Go.RowKit

/-- What holds at each of five labels. -/
def J5 (J0 J1 J2 J3 J4 : Act → World → Prop) : Nat → Act → World → Prop
  | 0 => J0
  | 1 => J1
  | 2 => J2
  | 3 => J3
  | 4 => J4
  | _ => fun _ _ => False

theorem wp_scope_five {P : Program} {a : Act} {w : World} {Q : Exit → Act → World → Prop} {c r0 r1 r2 r3 r4 : Code} (J0 J1 J2 J3 J4 : Act → World → Prop) (μ : Nat → Act → World → Nat)
    (h0 : findLabel c 0 = some r0) (h1 : findLabel c 1 = some r1) (h2 : findLabel c 2 = some r2) (h3 : findLabel c 3 = some r3) (h4 : findLabel c 4 = some r4)
    (first : c.wp P (jumpsTo (J5 J0 J1 J2 J3 J4) Q) a w)
    (p0 : ∀ a w, J0 a w → r0.wp P (jumpsTo (fun l' a' w' => J5 J0 J1 J2 J3 J4 l' a' w' ∧ μ l' a' w' < μ 0 a w) Q) a w)
    (p1 : ∀ a w, J1 a w → r1.wp P (jumpsTo (fun l' a' w' => J5 J0 J1 J2 J3 J4 l' a' w' ∧ μ l' a' w' < μ 1 a w) Q) a w)
    (p2 : ∀ a w, J2 a w → r2.wp P (jumpsTo (fun l' a' w' => J5 J0 J1 J2 J3 J4 l' a' w' ∧ μ l' a' w' < μ 2 a w) Q) a w)
    (p3 : ∀ a w, J3 a w → r3.wp P (jumpsTo (fun l' a' w' => J5 J0 J1 J2 J3 J4 l' a' w' ∧ μ l' a' w' < μ 3 a w) Q) a w)
    (p4 : ∀ a w, J4 a w → r4.wp P (jumpsTo (fun l' a' w' => J5 J0 J1 J2 J3 J4 l' a' w' ∧ μ l' a' w' < μ 4 a w) Q) a w) : (Code.scope c).wp P Q a w := by
  refine wp_scope_labels (fun l => match l with | 0 => r0 | 1 => r1 | 2 => r2 | 3 => r3 | _ => r4) (J5 J0 J1 J2 J3 J4) μ (fun l a w h => ?_) first (fun l a w h => ?_)
  · match l, h with
    | 0, _ => exact h0
    | 1, _ => exact h1
    | 2, _ => exact h2
    | 3, _ => exact h3
    | 4, _ => exact h4
    | _ + 5, h => exact h.elim
  · match l, h with
    | 0, h => exact p0 a w h
    | 1, h => exact p1 a w h
    | 2, h => exact p2 a w h
    | 3, h => exact p3 a w h
    | 4, h => exact p4 a w h
    | _ + 5, h => exact h.elim

/-- .. of four. -/
theorem wp_scope_four {P : Program} {a : Act} {w : World} {Q : Exit → Act → World → Prop} {c r0 r1 r2 r3 : Code} (J0 J1 J2 J3 : Act → World → Prop) (μ : Nat → Act → World → Nat)
    (h0 : findLabel c 0 = some r0) (h1 : findLabel c 1 = some r1) (h2 : findLabel c 2 = some r2) (h3 : findLabel c 3 = some r3)
    (first : c.wp P (jumpsTo (J5 J0 J1 J2 J3 (fun _ _ => False)) Q) a w)
    (p0 : ∀ a w, J0 a w → r0.wp P (jumpsTo (fun l' a' w' => J5 J0 J1 J2 J3 (fun _ _ => False) l' a' w' ∧ μ l' a' w' < μ 0 a w) Q) a w)
    (p1 : ∀ a w, J1 a w → r1.wp P (jumpsTo (fun l' a' w' => J5 J0 J1 J2 J3 (fun _ _ => False) l' a' w' ∧ μ l' a' w' < μ 1 a w) Q) a w)
    (p2 : ∀ a w, J2 a w → r2.wp P (jumpsTo (fun l' a' w' => J5 J0 J1 J2 J3 (fun _ _ => False) l' a' w' ∧ μ l' a' w' < μ 2 a w) Q) a w)
    (p3 : ∀ a w, J3 a w → r3.wp P (jumpsTo (fun l' a' w' => J5 J0 J1 J2 J3 (fun _ _ => False) l' a' w' ∧ μ l' a' w' < μ 3 a w) Q) a w) : (Code.scope c).wp P Q a w := by
  refine wp_scope_labels (fun l => match l with | 0 => r0 | 1 => r1 | 2 => r2 | _ => r3) (J5 J0 J1 J2 J3 (fun _ _ => False)) μ (fun l a w h => ?_) first (fun l a w h => ?_)
  · match l, h with
    | 0, _ => exact h0
    | 1, _ => exact h1
    | 2, _ => exact h2
    | 3, _ => exact h3
    | 4, h => exact h.elim
    | _ + 5, h => exact h.elim
  · match l, h with
    | 0, h => exact p0 a w h
    | 1, h => exact p1 a w h
    | 2, h => exact p2 a w h
    | 3, h => exact p3 a w h
    | 4, h => exact h.elim
    | _ + 5, h => exact h.elim

end Go.Proofs.YteninofjeidljaaGreat

namespace Go.Proofs.YteninofjeidljaaGreat

open Go.RowKit

set_option linter.unusedVariables false

set_option linter.unusedSimpArgs false

theorem ext_list7 (s : ByteArray) (a b : Nat) : (s.extract a b).data.toList = (s.data.toList.drop a).take (b - a) := by
  rw [ByteArray.data_extract, Array.toList_extract, List.extract_eq_take_drop]

theorem ext_bytes (s : ByteArray) (a b : Nat) (l : List UInt8) (h : (s.data.toList.drop a).take (b - a) = l) : s.extract a b = bytesOf l := by
  refine ByteArray.ext (Array.toList_inj.1 ?_)
  rw [ext_list7, h]
  unfold bytesOf
  simp

theorem head_at (s : ByteArray) (j : Nat) (h : j < s.size) : (s.data.toList.drop j).head? = some s[j] := by rw [drop_at s j h]; rfl

theorem head_end (s : ByteArray) (j : Nat) (h : s.size ≤ j) : (s.data.toList.drop j).head? = none := by rw [drop_end s j h]; rfl

theorem head_iff (s : ByteArray) (j : Nat) (c : UInt8) : (s.data.toList.drop j).head? = some c ↔ ∃ h : j < s.size, s[j] = c := by
  rcases Nat.lt_or_ge j s.size with h | h
  · rw [head_at s j h]
    exact ⟨fun e => ⟨h, Option.some.inj e⟩, fun ⟨_, e⟩ => by rw [e]⟩
  · rw [head_end s j h]
    exact ⟨fun e => (by cases e), fun ⟨x, _⟩ => (by omega)⟩

theorem heap2 (w : World) (A B : Obj) : ((w.alloc A).alloc B).heap[w.heap.size]? = some A ∧ ((w.alloc A).alloc B).heap[w.heap.size + 1]? = some B := by
  have s1 : (w.alloc A).heap.size = w.heap.size + 1 := by simp
  refine ⟨?_, ?_⟩
  · rw [Below.heap_alloc _ _ _ (by omega)]
    exact heap_alloc_new w A
  · rw [← s1]
    exact heap_alloc_new _ B

theorem byte_t {a : UInt8} {n : Nat} {c : UInt8} (hc : c.toNat = n) (h : a = c) : ((a.toNat : Int) == (n : Int)) = true ∧ ((a.toNat : Int) != (n : Int)) = false := by
  subst h
  rw [hc]
  exact ⟨by simp, by simp⟩

theorem byte_f {a : UInt8} {n : Nat} {c : UInt8} (hc : c.toNat = n) (h : ¬ a = c) : ((a.toNat : Int) == (n : Int)) = false ∧ ((a.toNat : Int) != (n : Int)) = true := by
  have hn : ¬ (a.toNat : Int) = (n : Int) := fun e => h (UInt8.toNat_inj.1 (by omega))
  exact ⟨by simpa using hn, by simpa using hn⟩

theorem rest_pos (s : ByteArray) (g : List UInt8) (p : Nat) : restL g (s.data.toList.drop p) = s.data.toList.drop (p + (tillL g (s.data.toList.drop p)).length) := by
  rw [rest_drop, List.drop_drop]

theorem till_pos_le (s : ByteArray) (g : List UInt8) (p : Nat) (hp : p ≤ s.size) : p + (tillL g (s.data.toList.drop p)).length ≤ s.size := by
  have := till_le g (s.data.toList.drop p)
  rw [List.length_drop, show s.data.toList.length = s.size from rfl] at this
  omega

/-- What begins with one of these signs begins with one. -/
theorem rest_head (g l : List UInt8) (c : UInt8) (h : (restL g l).head? = some c) : g.contains c = true := by
  induction l with
  | nil => simp [restL] at h
  | cons x r ih =>
    unfold restL at h
    split at h
    · rename_i hx
      simp at h
      rw [← h]
      exact hx
    · exact ih h

abbrev tkZ : Value := .agg #[.int .i64 0, .string ⟨#[]⟩, .slice none 0 0, .string ⟨#[]⟩]

/-- What l7Tag tells. -/
def TagPost (s : ByteArray) (p : Nat) (w : World) (e : Ending) (w' : World) : Prop :=
  (tagL (s.data.toList.drop p) = none → e = .returned (.tuple #[tkZ, .bool false, .int .i64 (-1)])) ∧
  (∀ t c r, tagL (s.data.toList.drop p) = some (t, c, r) → ∃ a cap, e = .returned (.tuple #[tkV t a cap, .bool c, .int .i64 ((s.size - r.length : Nat) : Int)]) ∧ AtRow w' a t.attrs ∧ TkSz 1048576 t ∧ ∀ g o, a = some ⟨g, o, none⟩ → w.heap.size ≤ g) ∧ Below w.heap.size w w'

theorem tagPost_none {s : ByteArray} {p : Nat} {w w' : World} {e : Ending} (h : tagL (s.data.toList.drop p) = none) (he : e = .returned (.tuple #[tkZ, .bool false, .int .i64 (-1)])) (hb : Below w.heap.size w w') : TagPost s p w e w' := by
  refine ⟨fun _ => he, fun t c r h' => ?_, hb⟩
  rw [h] at h'
  cases h'

theorem tagPost_some {s : ByteArray} {p : Nat} {w w' : World} {e : Ending} {t : Tk} {c : Bool} {r : List UInt8} (h : tagL (s.data.toList.drop p) = some (t, c, r)) {a : Option Addr} {cap : Nat} (he : e = .returned (.tuple #[tkV t a cap, .bool c, .int .i64 ((s.size - r.length : Nat) : Int)])) (ha : AtRow w' a t.attrs) (hz : TkSz 1048576 t) (hg : ∀ g o, a = some ⟨g, o, none⟩ → w.heap.size ≤ g) (hb : Below w.heap.size w w') : TagPost s p w e w' := by
  refine ⟨fun h' => ?_, fun t' c' r' h' => ?_, hb⟩
  · rw [h] at h'
    cases h'
  · rw [h] at h'
    simp only [Option.some.injEq, Prod.mk.injEq] at h'
    obtain ⟨rfl, rfl, rfl⟩ := h'
    exact ⟨a, cap, he, ha, hz, hg⟩

set_option maxRecDepth 8000 in
set_option maxHeartbeats 2000000 in
theorem cTagClose (s : ByteArray) (p : Nat) (w : World) (hs : s.size ≤ 4000) (hp : p + 1 < s.size) (h0 : s[p] = 60) (h1 : s[p + 1] = 47) :
    Calls Tryz.prog 115 #[.string s, .int .i64 p] w (TagPost s p w) := by
  have C := fun w => cTill s ⟨#[62]⟩ p w (by omega) (by omega) (by decide)
  rw [show (⟨#[62]⟩ : ByteArray).data.toList = [62] from rfl] at C
  have hE := till_pos_le s [62] p (by omega)
  have hr := rest_pos s [62] p
  have hd1 := drop_at s p (by omega)
  have hd2 := drop_at s (p + 1) hp
  have h2 : 2 ≤ (tillL [62] (s.data.toList.drop p)).length := by
    rw [hd1, h0, till_cons_out (by decide), hd2, h1, till_cons_out (by decide)]
    simp
  have htk := till_take [62] (s.data.toList.drop p)
  have e0 : ((s.data.toList.drop p).drop 1).head? = some 47 := by rw [List.drop_drop, head_at s (p + 1) hp, h1]
  have HT := hid (show tagL (s.data.toList.drop p) = if (restL [62] (s.data.toList.drop p)).head? = some 62 then some (⟨2, bytesOf ((tillL [62] (s.data.toList.drop p)).drop 2), [], ⟨#[]⟩⟩, false, (restL [62] (s.data.toList.drop p)).drop 1) else none by
    unfold tagL
    rw [if_pos e0])
  have b1 := (byte_t (n := 47) rfl h1).1
  obtain ⟨E, hEE⟩ : ∃ E, p + (tillL [62] (s.data.toList.drop p)).length = E := ⟨_, rfl⟩
  rw [hEE] at C hE hr
  have hpE : p + 2 ≤ E := by omega
  have HX := hid (ext_bytes s (p + 2) E ((tillL [62] (s.data.toList.drop p)).drop 2) (by
    rw [htk, List.drop_take, List.drop_drop]
    congr 1
    omega))
  have HB0 := hid ((((Below.refl w.heap.size w).alloc (Nat.le_refl _) (.cells #[.int .i64 0, .string ⟨#[]⟩, .slice none 0 0, .string ⟨#[]⟩] 49)).alloc (by simp) (.cells #[.int .i64 0, .string ⟨#[]⟩, .slice none 0 0, .string ⟨#[]⟩] 49)))
  have hdp : decide ((p : Int) + 1 < (s.size : Int)) = true := decide_eq_true (by omega)
  have hlen : s.data.toList.length = s.size := rfl
  clear htk hd1 hd2 e0 h2
  by_cases hq : E < s.size
  · have hh : (restL [62] (s.data.toList.drop p)).head? = some 62 := by
      rw [hr, head_at s E hq]
      have := rest_head [62] (s.data.toList.drop p) s[E] (by rw [hr, head_at s E hq])
      simp at this
      rw [this]
    have ht := HT.out
    rw [if_pos hh, hr, List.drop_drop] at ht
    have HT2 := hid ht
    have hsl := slS s ((p : Int) + 2) (E : Int) (p + 2) E (by omega) rfl hpE (by omega)
    have HZ := hid (show TkSz 1048576 ⟨2, bytesOf ((tillL [62] (s.data.toList.drop p)).drop 2), [], ⟨#[]⟩⟩ from ⟨by
      show (bytesOf _).size ≤ 1048576
      have := till_le [62] (s.data.toList.drop p)
      rw [List.length_drop, hlen] at this
      unfold bytesOf
      simp only [ByteArray.size, List.size_toArray, List.length_drop]
      omega, (by show 0 ≤ 1048576; omega), (fun x hx => absurd hx List.not_mem_nil), (by show 0 ≤ 1048576; omega)⟩)
    have hne : ((E : Int) == (s.size : Int)) = false := by simp; omega
    clear hh hr HT ht hEE
    go_enter Tryz.func115, Tryz.ntmps115
    go_wp2_with fail
    refine (C _).mono ?_
    rintro e w1 ⟨rfl, hb1⟩
    obtain ⟨⟨r0, r1, r2, r3⟩, rf0, rf1, rf2, rf3⟩ := box4 (blk_below (heap2 w _ _).1 hb1)
    obtain ⟨⟨z0, z1, z2, z3⟩, _⟩ := box4 (blk_below (heap2 w _ _).2 hb1)
    have HB1 := hid (bb HB0.out hb1)
    clear hb1 HB0
    go_wp2_with fail
    refine bodyPost_ret (v := .tuple #[.agg #[.int .i64 2, .string (s.extract (p + 2) E), .slice none 0 0, .string ⟨#[]⟩], .bool false, .int .i64 ((E : Int) + 1)]) (by simp [results, Tryz.results115, go_sem, r0, r1, r2, r3]) rfl (tagPost_some HT2.out (a := none) (cap := 0) ?_ (fun j hj => by simp at hj) HZ.out (fun g o e => by cases e) ?_)
    · have hn : ((s.size - (s.data.toList.drop (E + 1)).length : Nat) : Int) = (E : Int) + 1 := by rw [List.length_drop, hlen]; omega
      rw [HX.out, hn]
      rfl
    · iterate 4 refine Below.setCell ?_ (by simp; try omega) _
      exact HB1.out
  · have hEs : E = s.size := by omega
    have hh : ¬ (restL [62] (s.data.toList.drop p)).head? = some 62 := by
      rw [hr, head_end s E (by omega)]
      intro e; cases e
    have ht := HT.out
    rw [if_neg hh] at ht
    have HT2 := hid ht
    have hne : ((E : Int) == (s.size : Int)) = true := by simp; omega
    clear hh hr HT ht hEE
    go_enter Tryz.func115, Tryz.ntmps115
    go_wp2_with fail
    refine (C _).mono ?_
    rintro e w1 ⟨rfl, hb1⟩
    obtain ⟨⟨r0, r1, r2, r3⟩, rf0, rf1, rf2, rf3⟩ := box4 (blk_below (heap2 w _ _).1 hb1)
    obtain ⟨⟨z0, z1, z2, z3⟩, _⟩ := box4 (blk_below (heap2 w _ _).2 hb1)
    have HB1 := hid (bb HB0.out hb1)
    clear hb1 HB0
    go_wp2_with fail
    refine bodyPost_ret (v := .tuple #[tkZ, .bool false, .int .i64 (-1)]) (by simp [results, Tryz.results115, go_sem, r0, r1, r2, r3]) rfl (tagPost_none HT2.out rfl ?_)
    iterate 4 refine Below.setCell ?_ (by simp; try omega) _
    exact HB1.out

end Go.Proofs.YteninofjeidljaaGreat

namespace Go.Proofs.YteninofjeidljaaGreat.Nd

open Go.RowKit

set_option linter.unusedVariables false

set_option linter.unusedSimpArgs false

theorem infoR : (Tryz.prog.info? 42).map (fun i => (i.zero, i.size, i.bytes)) = some (some (.agg #[.int .i64 0, .string ⟨#[]⟩, .slice none 0 0, .string ⟨#[]⟩]), 4, 64) := by kernel_rfl

/-- One of the row, and where its attrs lie. -/
structure E where
  t : Tk
  a : Option Addr
  cap : Nat

def c1 (e : E) : List Value := [.int .i64 e.t.kind, .string e.t.name, .slice e.a e.t.attrs.length e.cap, .string e.t.text]

def cs (es : List E) : List Value := es.flatMap c1

theorem cs_app (es fs : List E) : cs (es ++ fs) = cs es ++ cs fs := by unfold cs; rw [List.flatMap_append]

theorem cs_one (e : E) : cs [e] = c1 e := by simp [cs]

theorem cs_len (es : List E) : (cs es).length = es.length * 4 := by
  induction es with
  | nil => rfl
  | cons x es ih => show (cs es).length + 4 = _; rw [ih, List.length_cons]; omega

theorem cs_cell (es : List E) : ∀ u ∈ cs es, u.oneCell' = true := by
  intro u hu
  unfold cs at hu
  obtain ⟨e, _, he⟩ := List.mem_flatMap.1 hu
  simp [c1] at he
  rcases he with rfl | rfl | rfl | rfl <;> rfl

theorem cs_get (es : List E) (j : Nat) (h : j < es.length) : (cs es)[j * 4]? = some (.int .i64 es[j].t.kind) ∧ (cs es)[j * 4 + 1]? = some (.string es[j].t.name)
    ∧ (cs es)[j * 4 + 2]? = some (.slice es[j].a es[j].t.attrs.length es[j].cap) ∧ (cs es)[j * 4 + 3]? = some (.string es[j].t.text) := by
  induction es generalizing j with
  | nil => simp at h
  | cons x es ih =>
    have e : cs (x :: es) = .int .i64 x.t.kind :: .string x.t.name :: .slice x.a x.t.attrs.length x.cap :: .string x.t.text :: cs es := rfl
    rw [e]
    match j with
    | 0 => exact ⟨rfl, rfl, rfl, rfl⟩
    | j + 1 =>
      have := ih j (by simpa using h)
      rw [show (j + 1) * 4 = j * 4 + 1 + 1 + 1 + 1 by omega]
      exact this

/-- The lists of these two lie in two blocks. -/
def Apart (e f : E) : Prop := 0 < e.t.attrs.length → 0 < f.t.attrs.length → ∀ g o g' o', e.a = some ⟨g, o, none⟩ → f.a = some ⟨g', o', none⟩ → ¬ g = g'

/-- The row so far: from B on. -/
structure Row (w : World) (B : Nat) (v : Value) (es : List E) : Prop where
  own : w.ownsRow B 42 4 v es.length (cs es)
  ats : ∀ e ∈ es, OwnAts w B e.a e.t.attrs ∧ ∀ g o, 0 < e.t.attrs.length → e.a = some ⟨g, o, none⟩ → ¬ v.ownBlock = some g
  apart : es.Pairwise Apart

theorem Row.below {w w' : World} {B : Nat} {v : Value} {es : List E} (h : Row w B v es) (hb : Below w.heap.size w w') : Row w' B v es :=
  ⟨ownsRow_below h.own hb, fun e he => ⟨(h.ats e he).1.below hb, (h.ats e he).2⟩, h.apart⟩

theorem Row.mono {w : World} {B B' : Nat} {v : Value} {es : List E} (h : Row w B' v es) (hB : B ≤ B') : Row w B v es := by
  refine ⟨⟨h.own.1, ?_⟩, fun e he => ⟨fun hl => ?_, (h.ats e he).2⟩, h.apart⟩
  · rcases h.own.2 with h' | ⟨g, cap, cur, h1, h2, h3⟩
    · exact .inl h'
    · exact .inr ⟨g, cap, cur, h1, Nat.le_trans hB h2, h3⟩
  · obtain ⟨g, o, cu, e1, e2, e3⟩ := (h.ats e he).1 hl
    exact ⟨g, o, cu, e1, Nat.le_trans hB e2, e3⟩

theorem Row.start (w : World) (B g : Nat) (hB : B ≤ g) (hh : w.heap[g]? = some (.cells #[] 42 (0, 0))) : Row w B (.slice (some ⟨g, 0, none⟩) 0 0) [] :=
  ⟨⟨rfl, .inr ⟨g, 0, #[], rfl, hB, hh, Nat.le_refl _, Nat.zero_le _, rfl, rfl⟩⟩, fun e he => absurd he List.not_mem_nil, List.Pairwise.nil⟩

theorem Row.start0 (w : World) (B : Nat) : Row w B (.slice none 0 0) [] :=
  ⟨World.ownsRow_nil _ _ _ _, fun e he => absurd he List.not_mem_nil, List.Pairwise.nil⟩

/-- A row of one, made at once. -/
theorem Row.one {w : World} {B g : Nat} {e : E} (hB : B ≤ g) (hh : w.heap[g]? = some (.cells #[.int .i64 e.t.kind, .string e.t.name, .slice e.a e.t.attrs.length e.cap, .string e.t.text] 42 (0, 0))) (ha : OwnAts w B e.a e.t.attrs) (hne : ∀ g' o, 0 < e.t.attrs.length → e.a = some ⟨g', o, none⟩ → ¬ g' = g) :
    Row w B (.slice (some ⟨g, 0, none⟩) 1 1) [e] :=
  ⟨⟨rfl, .inr ⟨g, 1, _, rfl, hB, hh, Nat.le_refl _, by decide, rfl, rfl⟩⟩, fun x hx => by
    rw [List.mem_singleton] at hx
    subst hx
    exact ⟨ha, fun g' o hl e1 e2 => hne g' o hl e1 (by simp [Value.ownBlock] at e2; exact e2.symm)⟩, List.pairwise_singleton _ _⟩

theorem Row.slice {w : World} {B : Nat} {v : Value} {es : List E} (h : Row w B v es) : ∃ a c, v = .slice a es.length c := by
  rcases h.own.2 with ⟨rfl, h0⟩ | ⟨g, cap, _, rfl, _⟩
  · exact ⟨none, 0, by rw [h0]⟩
  · exact ⟨_, cap, rfl⟩

theorem Row.tkRow {w : World} {B : Nat} {v : Value} {es : List E} (h : Row w B v es) : ∃ a cap, v = .slice a es.length cap ∧ TkRow w a (es.map (·.t)) := by
  rcases h.own.2 with ⟨rfl, h0⟩ | ⟨g, cap, cur, rfl, hg, hh, hn, hc, hs, ht⟩
  · exact ⟨none, 0, by rw [h0], fun j hj => by rw [List.length_map] at hj; omega⟩
  · refine ⟨some ⟨g, 0, none⟩, cap, rfl, fun j hj => ?_⟩
    rw [List.length_map] at hj
    obtain ⟨k0, k1, k2, k3⟩ := cs_get es j hj
    have hx : ∀ k u, (cs es)[k]? = some u → w.cell? ⟨g, 0 + k, none⟩ = some u := by
      intro k u hk
      rw [Lib.cell_of_heap hh, Nat.zero_add, ← Array.getElem?_toList]
      rw [← ht, List.getElem?_take] at hk
      split at hk
      · exact hk
      · cases hk
    rw [List.getElem_map]
    exact ⟨g, 0, es[j].a, es[j].cap, rfl, lt_of_heap hh, hx _ _ k0, hx _ _ k1, hx _ _ k2, hx _ _ k3, (h.ats _ (List.getElem_mem hj)).1.atRow⟩

theorem Row.join {w w' : World} {B : Nat} {v v' : Value} {es fs : List E} (h : Row w B v es)
    (hf : ∀ e ∈ fs, OwnAts w B e.a e.t.attrs ∧ ∀ g o, 0 < e.t.attrs.length → e.a = some ⟨g, o, none⟩ → ¬ v.ownBlock = some g) (hp : fs.Pairwise Apart) (hx : ∀ e ∈ es, ∀ f ∈ fs, Apart e f)
    (ho : w'.ownsRow B 42 4 v' (es.length + fs.length) (cs es ++ cs fs)) (hgr : w.grownBy w' v.ownBlock) (hw : v'.ownBlock = v.ownBlock ∨ v'.ownBlock = some w.heap.size) : Row w' B v' (es ++ fs) := by
  have key : ∀ e : E, (OwnAts w B e.a e.t.attrs ∧ ∀ g o, 0 < e.t.attrs.length → e.a = some ⟨g, o, none⟩ → ¬ v.ownBlock = some g) → OwnAts w' B e.a e.t.attrs ∧ ∀ g o, 0 < e.t.attrs.length → e.a = some ⟨g, o, none⟩ → ¬ v'.ownBlock = some g := by
    rintro e ⟨h1, h2⟩
    refine ⟨fun hl => ?_, fun g o hl hg x => ?_⟩
    · obtain ⟨g, o, cu, e1, e2, e3, e4⟩ := h1 hl
      exact ⟨g, o, cu, e1, e2, (hgr.block g (lt_of_heap e3) (fun x => h2 g o hl e1 x.symm)).trans e3, e4⟩
    · rcases hw with hw | hw
      · exact h2 g o hl hg (hw.symm.trans x)
      · rw [hw] at x
        simp only [Option.some.injEq] at x
        obtain ⟨g2, o2, cu, e1, _, e3, _⟩ := h1 hl
        rw [hg] at e1
        cases e1
        have := lt_of_heap e3
        omega
  refine ⟨by rw [List.length_append, cs_app]; exact ho, fun e he => ?_, List.pairwise_append.2 ⟨h.apart, hp, hx⟩⟩
  rcases List.mem_append.1 he with h' | h'
  · exact key e (h.ats e h')
  · exact key e (hf e h')

/-- Of what was there and what is made later. -/
theorem Row.apart_later {w w2 : World} {B B2 : Nat} {v v2 : Value} {es fs : List E} (h : Row w B v es) (k : Row w2 B2 v2 fs) (hB : w.heap.size ≤ B2) : (∀ e ∈ es, ∀ f ∈ fs, Apart e f) ∧ ∀ f ∈ fs, ∀ g o, 0 < f.t.attrs.length → f.a = some ⟨g, o, none⟩ → ¬ v.ownBlock = some g := by
  refine ⟨fun e he f hf hl hl' g o g' o' e1 e2 x => ?_, fun f hf g o hl e1 x => ?_⟩
  · subst x
    obtain ⟨g1, o1, cu, a1, _, a3, _⟩ := (h.ats e he).1 hl
    obtain ⟨g2, o2, cu2, b1, b2, _⟩ := (k.ats f hf).1 hl'
    rw [e1] at a1
    rw [e2] at b1
    cases a1
    cases b1
    have := lt_of_heap a3
    omega
  · obtain ⟨g2, o2, cu2, b1, b2, _⟩ := (k.ats f hf).1 hl
    rw [e1] at b1
    cases b1
    have := (h.own.lt g x).2
    omega

theorem Row.cells {w : World} {B : Nat} {a : Option Addr} {n c : Nat} {es : List E} (h : Row w B (.slice a n c) es) (hne : ¬ es = []) : ∃ g, a = some ⟨g, 0, none⟩ ∧ n = es.length ∧ ∀ j u, (cs es)[j]? = some u → w.cell? ((⟨g, 0, none⟩ : Addr).add j) = some u := by
  rcases h.own.2 with ⟨_, h0⟩ | ⟨g, cap, cur, e, hg, hh, hn, hc, hs, ht⟩
  · exact absurd (List.eq_nil_of_length_eq_zero h0) hne
  · cases e
    refine ⟨g, rfl, rfl, fun j u hk => ?_⟩
    rw [add_plainW, Lib.cell_of_heap hh, Nat.zero_add, ← Array.getElem?_toList]
    rw [← ht, List.getElem?_take] at hk
    split at hk
    · exact hk
    · cases hk

/-- append of such a row. -/
theorem wpL_join (w : World) {ops : Array Oper} {rest : List Oper} {o : Oper} {a : Act} {Q : Exit → Act → World → Prop} (hgd : o.guard = none) (s x : Operand)
    (ho : o.op = .call { callee := .builtin .append, args := #[s, x], argTypes := #[24, 24] }) (base : Nat) (v : Value) (es fs : List E) (hs : a.eval s = v) (hown : Row w base v es)
    (g m c : Nat) (hx : a.eval x = .slice (some ⟨g, 0, none⟩) m c) (hm : m = fs.length) (hB : ∀ j u, (cs fs)[j]? = some u → w.cell? ((⟨g, 0, none⟩ : Addr).add j) = some u)
    (hf : ∀ e ∈ fs, OwnAts w base e.a e.t.attrs ∧ ∀ g o, 0 < e.t.attrs.length → e.a = some ⟨g, o, none⟩ → ¬ v.ownBlock = some g) (hp : fs.Pairwise Apart) (hap : ∀ e ∈ es, ∀ f ∈ fs, Apart e f) (hn : es.length + fs.length ≤ 2097152) (hb : base ≤ w.heap.size)
    (h : ∀ a' c' w', Row w' base (.slice a' (es ++ fs).length c') (es ++ fs) → Below base w w' → w.grownBy w' v.ownBlock → wpList Tryz.prog ops Q rest (a.put o.dst (.slice a' (es ++ fs).length c')) w') : wpList Tryz.prog ops Q (o :: rest) a w := by
  subst hm
  obtain ⟨i0, hi, hz0, hz1, hz2⟩ := info_parts infoR
  refine wpList_append_own_at w hgd s x 24 ho base 42 i0 _ 4 64 Tryz.underlying24 hi hz0 hz1 hz2 rfl (by decide) v es.length (cs es) hs hown.own ⟨g, 0, none⟩ fs.length c (cs fs) hx (cs_len fs) hB (cs_cell fs) (by unfold maxLen; omega) (by omega) hb ?_
  intro v' w' ho' hg' _ hw'
  have hr := hown.join hf hp hap ho' hg' hw'
  obtain ⟨a', c', hv'⟩ := hr.slice
  subst hv'
  exact h a' c' w' hr ((Below.refl base w).grown hg' hb (fun k e => (hown.own.lt k e).1)) hg'

/-- .. as one step of a region that draws. -/
theorem step_join {ops : Array Oper} {o : Oper} {a : Act} {w : World} {K : Act → World → Prop} {Q : Exit → Act → World → Prop} {F : Prop} (hgd : o.guard = none) (s x : Operand)
    (ho : o.op = .call { callee := .builtin .append, args := #[s, x], argTypes := #[24, 24] }) (base : Nat) (v : Value) (es fs : List E) (hs : a.eval s = v) (hown : Row w base v es)
    (g m c : Nat) (hx : a.eval x = .slice (some ⟨g, 0, none⟩) m c) (hm : m = fs.length) (hB : ∀ j u, (cs fs)[j]? = some u → w.cell? ((⟨g, 0, none⟩ : Addr).add j) = some u)
    (hf : ∀ e ∈ fs, OwnAts w base e.a e.t.attrs ∧ ∀ g o, 0 < e.t.attrs.length → e.a = some ⟨g, o, none⟩ → ¬ v.ownBlock = some g) (hp : fs.Pairwise Apart) (hap : ∀ e ∈ es, ∀ f ∈ fs, Apart e f) (hn : es.length + fs.length ≤ 2097152) (hb : base ≤ w.heap.size)
    (h : ∀ a' c' w', Row w' base (.slice a' (es ++ fs).length c') (es ++ fs) → Below base w w' → w.grownBy w' v.ownBlock → K (a.put o.dst (.slice a' (es ++ fs).length c')) w') :
    if Region.wanted o (yielded ops a.tmps) = true then Oper.wp Tryz.prog o a w K Q else F := by
  have hw : Region.wanted o (yielded ops a.tmps) = true := by simp [Region.wanted, hgd]
  rw [if_pos hw]
  subst hm
  obtain ⟨i0, hi, hz0, hz1, hz2⟩ := info_parts infoR
  obtain ⟨v', w', hr, ho', hg', _, hw'⟩ := run_append_own_at (P := Tryz.prog) w base 24 o.type 42 i0 _ 4 64 Tryz.underlying24 hi hz0 hz1 hz2 rfl (by decide) v es.length (cs es) hown.own ⟨g, 0, none⟩ fs.length c (cs fs) (cs_len fs) hB (cs_cell fs) (by unfold maxLen; omega) (by omega) hb
  have hrow := hown.join hf hp hap ho' hg' hw'
  obtain ⟨a', c', hv'⟩ := hrow.slice
  subst hv'
  unfold Oper.wp execOp
  simp only [ho, resolve, invoke, builtin, Sem.run_bind, Sem.run_pure, Result.andThen_ok, List.map_toArray, List.map_cons, List.map_nil, hs, hx, hr]
  exact h a' c' w' hrow ((Below.refl base w).grown hg' hb (fun k e => (hown.own.lt k e).1)) hg'

end Go.Proofs.YteninofjeidljaaGreat.Nd
