/- Contract of Tokens of the specification. Contract of Grown of the specification. Contract of ReadTree of the specification. Contracts of what a token is shown as, of the specification. -/
import Derived.Test.YteninofjeidljaaGreatM24
import Derived.Test.YteninofjeidljaaGreatM21
import Derived.Test.YteninofjeidljaaGreatM12
import Derived.Test.YteninofjeidljaaGreatM6
import Derived.Test.YteninofjeidljaaGreatM5
import Derived.Deep.CutRange
import Derived.Deep.RegionHeld3
namespace Go.Proofs.YteninofjeidljaaGreat

open Go.RowKit

set_option linter.unusedVariables false

set_option linter.unusedSimpArgs false

/-- What Tokens tells. -/
def TokPost (s : ByteArray) (w : World) (e : Ending) (w' : World) : Prop :=
  (toksF s.data.toList = none → ∃ a cap, e = .returned (.tuple #[.slice a 0 cap, .bool false])) ∧
  (∀ ts, toksF s.data.toList = some ts → ∃ a cap, e = .returned (.tuple #[.slice a ts.length cap, .bool true]) ∧ TkRow w' a ts ∧ TksSz 1048576 ts) ∧ Below w.heap.size w w'

theorem tokPost_none {s : ByteArray} {w w' : World} {e : Ending} (h : toksF s.data.toList = none) {a : Option Addr} {cap : Nat} (he : e = .returned (.tuple #[.slice a 0 cap, .bool false])) (hb : Below w.heap.size w w') : TokPost s w e w' := by
  refine ⟨fun _ => ⟨a, cap, he⟩, fun ts h' => ?_, hb⟩
  rw [h] at h'
  cases h'

theorem tokPost_some {s : ByteArray} {w w' : World} {e : Ending} {ts : List Tk} (h : toksF s.data.toList = some ts) {a : Option Addr} {cap : Nat} (he : e = .returned (.tuple #[.slice a ts.length cap, .bool true])) (hr : TkRow w' a ts) (hz : TksSz 1048576 ts) (hb : Below w.heap.size w w') : TokPost s w e w' := by
  refine ⟨fun h' => ?_, fun ts' h' => ?_, hb⟩
  · rw [h] at h'
    cases h'
  · rw [h] at h'
    simp only [Option.some.injEq] at h'
    subst h'
    exact ⟨a, cap, he, hr, hz⟩

theorem toks_lex {l : List UInt8} {V : Option (List Tk)} (h : l.length ≤ 4000 ∧ plainL l = true) (hV : lexL (l.length + 1) l [] [] = V) :
    (V = none → toksF l = none) ∧ ∀ out, V = some out → ((∀ t ∈ out, tokB t = true) → out.length ≤ 120 → toksF l = some out) ∧ (¬ (∀ t ∈ out, tokB t = true) → toksF l = none) ∧ (¬ out.length ≤ 120 → toksF l = none) := by
  subst hV
  refine ⟨fun e => ?_, fun out e => ⟨fun h1 h2 => ?_, fun h1 => ?_, fun h1 => ?_⟩⟩
  · unfold toksF; rw [if_pos h, e]
  · unfold toksF; rw [if_pos h, e]; simp only [if_pos (And.intro h1 h2)]
  · unfold toksF; rw [if_pos h, e]; simp only [if_neg (fun x : (∀ t ∈ out, tokB t = true) ∧ out.length ≤ 120 => h1 x.1)]
  · unfold toksF; rw [if_pos h, e]; simp only [if_neg (fun x : (∀ t ∈ out, tokB t = true) ∧ out.length ≤ 120 => h1 x.2)]

/-- The walk stands still here. -/
theorem stopW {p : Prop} (h : Hid p) : p := h

/-- What the loop over the text knows. -/
structure LexSt (s : ByteArray) (w : World) (V : Option (List Tk)) (p : Nat) (wr : World) (f : Nat) (text : List UInt8) (es : List TkE) (v : Value) : Prop where
  fuel : s.size - p + 1 ≤ f
  val : lexL f (s.data.toList.drop p) text (es.map (·.t)) = V
  out : OutSt wr w.heap.size v es
  cnt : es.length + text.length ≤ 2 * p
  bel : Below w.heap.size w wr

theorem bytesOf_app (a b : List UInt8) : bytesOf (a ++ b) = bytesOf a ++ bytesOf b := by
  unfold bytesOf
  apply ByteArray.ext
  simp

theorem bytesOf_emp (l : List UInt8) : (bytesOf l).toList.isEmpty = decide (l = []) := by
  rw [ByteArray.toList_eq]
  cases l with
  | nil => rfl
  | cons c r => rfl

theorem bytesOf_beq (l : List UInt8) : ((bytesOf l).toList == []) = decide (l = []) ∧ ((bytesOf l).toList != []) = !decide (l = []) := by
  have e : ((bytesOf l).toList == []) = decide (l = []) := by
    rw [ByteArray.toList_eq]
    cases l with
    | nil => rfl
    | cons c r => rfl
  exact ⟨e, by rw [bne, e]⟩

set_option maxRecDepth 8000 in
set_option maxHeartbeats 8000000 in
theorem cTokensS (s : ByteArray) (w : World) (hs : s.size ≤ 1048576) :
    Calls Tryz.prog 68 #[.string s] w (TokPost s w) := by
  have hlen : s.data.toList.length = s.size := rfl
  have HB0 := hid ((((Below.refl w.heap.size w).alloc (Nat.le_refl _) (.cells #[] 49)).alloc (by simp) (.cells #[] 49)))
  by_cases hbig : s.size ≤ 4000
  case neg =>
    have HN := hid (show toksF s.data.toList = none by unfold toksF; rw [if_neg (fun h => hbig (by rw [← hlen]; exact h.1))])
    have hd3 : decide ((4000 : Int) < (s.size : Int)) = true := decide_eq_true (by omega)
    go_enter Tryz.func68, Tryz.ntmps68
    go_wp2_with fail
    go_ret2
    exact tokPost_none HN.out rfl HB0.out
  have hd3 : decide ((4000 : Int) < (s.size : Int)) = false := decide_eq_false (by omega)
  have CP := fun w => c_spec_PlainOk s w (by unfold maxLen; omega)
  cases hpl : plainL s.data.toList with
  | false =>
    rw [hpl] at CP
    have HN := hid (show toksF s.data.toList = none by unfold toksF; rw [if_neg (fun h => by rw [hpl] at h; exact Bool.false_ne_true h.2)])
    clear hpl
    go_enter Tryz.func68, Tryz.ntmps68
    go_wp2_with fail
    refine (CP _).mono ?_
    rintro e w1 ⟨rfl, rfl⟩
    go_wp2_with fail
    go_ret2
    exact tokPost_none HN.out rfl HB0.out
  | true =>
    rw [hpl] at CP
    obtain ⟨V, hV⟩ : ∃ V, lexL (s.data.toList.length + 1) s.data.toList [] [] = V := ⟨_, rfl⟩
    have HT := hid (toks_lex ⟨by rw [hlen]; exact hbig, hpl⟩ hV)
    have HO0 := hid (show OutSt ((w.alloc (.cells #[] 49)).alloc (.cells #[] 49)) w.heap.size (.slice (some ⟨w.heap.size, 0, none⟩) 0 0) [] from OutSt.start _ _ _ (Nat.le_refl _) (heap2 w _ _).1)
    have ST0 := hid (show LexSt s w V 0 ((w.alloc (.cells #[] 49)).alloc (.cells #[] 49)) (s.size + 1) [] [] (.slice (some ⟨w.heap.size, 0, none⟩) 0 0) from ⟨by omega, hV, HO0.out, Nat.le_refl _, HB0.out⟩)
    clear hpl hV HO0 HB0
    go_enter Tryz.func68, Tryz.ntmps68
    go_wp2_with fail
    refine (CP _).mono ?_
    rintro e w1 ⟨rfl, rfl⟩
    clear CP
    go_wp2_with fail
    go_loopw [4, 6, 7] (fun v tx x wr => ∃ (p f : Nat) (text : List UInt8) (es : List TkE), x = .int .i64 (p : Int) ∧ p ≤ s.size ∧ tx = .string (bytesOf text) ∧ Hid (LexSt s w V p wr f text es v)) (fun _ _ x _ => s.size + 1 - (intOf x).toNat)
    case atStart => exact ⟨0, _, [], [], rfl, Nat.zero_le _, rfl, ST0.out⟩
    case round =>
      clear ST0
      obtain ⟨p, f, text, es, rfl, hp, rfl, ST⟩ := hrel
      obtain ⟨f, rfl⟩ : ∃ f', f = f' + 1 := ⟨f - 1, by have := ST.out.fuel; omega⟩
      have hd7 : decide ((p : Int) ≤ (s.size : Int)) = true := decide_eq_true (by omega)
      have HB := hid ST.out.bel
      by_cases htx : ∃ h : p < s.size, ¬ s[p] = 60
      · obtain ⟨hpl, h60⟩ := htx
        have hd8 : decide ((p : Int) < (s.size : Int)) = true := decide_eq_true (by omega)
        have b8 := (byte_f (n := 60) rfl h60).2
        have hne : ¬ s.data.toList.drop p = [] := by rw [drop_at s p hpl]; exact List.cons_ne_nil _ _
        have hh : ¬ (s.data.toList.drop p).head? = some 60 := by rw [head_at s p hpl]; intro e; exact h60 (Option.some.inj e)
        have CE := fun w => cTill s ⟨#[60, 62]⟩ p w (by omega) (by omega) (by decide)
        rw [show (⟨#[60, 62]⟩ : ByteArray).data.toList = [60, 62] from rfl] at CE
        have hE := till_pos_le s [60, 62] p (by omega)
        have hrE := rest_pos s [60, 62] p
        have htE := till_take [60, 62] (s.data.toList.drop p)
        obtain ⟨raw, hraw⟩ : ∃ raw, tillL [60, 62] (s.data.toList.drop p) = raw := ⟨_, rfl⟩
        rw [hraw] at CE hE hrE htE
        obtain ⟨E, hEE⟩ : ∃ E, p + raw.length = E := ⟨_, rfl⟩
        rw [hEE] at CE hE hrE
        have hpE : p ≤ E := by omega
        have hxl : (s.extract p E).data.toList = raw := by
          rw [ext_list7, show E - p = raw.length by omega]
          exact htE.symm
        have CU := fun w => c_spec_Unescaped (s.extract p E) w (by
          have : (s.extract p E).size = raw.length := by rw [← hxl]; rfl
          omega)
        rw [hxl] at CU
        have hsl := slS s (p : Int) (E : Int) p E rfl rfl hpE (by omega)
        have HRW := hid hraw
        have HRE := hid hrE
        have HNE := hid hne
        have HHH := hid hh
        have HEE := hid hEE
        have HGO := hid (show ¬ (∃ h : E < s.size, s[E] = 62) → p < E from fun hn => by
          rcases Nat.lt_or_ge p E with h | h
          · exact h
          · have hEp : E = p := by omega
            subst hEp
            have h0 : raw = [] := List.eq_nil_of_length_eq_zero (by omega)
            rw [h0, drop_at s E hpl] at hraw
            rw [tillL] at hraw
            split at hraw
            · rename_i hc
              simp at hc
              rcases hc with hc | hc
              · exact absurd hc h60
              · exact absurd ⟨hpl, hc⟩ hn
            · cases hraw)
        clear htE hraw hrE hne hh hEE hxl
        cases hu : unescL raw with
        | none =>
          rw [hu] at CU
          have HN := hid (HT.out.1 (show V = none by rw [← ST.out.val]; exact lex_bad1 HNE.out HHH.out (by rw [HRW.out]; exact hu)))
          go_wp2_with fail
          refine (CE _).mono ?_
          rintro e w2 ⟨rfl, hb2⟩
          have HB2 := hid (bb HB.out hb2)
          clear hb2
          go_wp2_with fail
          refine (CU _).mono ?_
          rintro e w3 ⟨rfl, hb3⟩
          have HB3 := hid (bb HB2.out hb3)
          clear hb3
          go_wp2_with fail
          go_ret2
          exact tokPost_none HN.out rfl HB3.out
        | some u =>
          rw [hu] at CU
          have hUe : (⟨(outU (some u)).toArray⟩ : ByteArray) = bytesOf u := rfl
          rw [hUe] at CU
          go_wp2_with fail
          refine (CE _).mono ?_
          rintro e w2 ⟨rfl, hb2⟩
          have HB2 := hid (bb HB.out hb2)
          have HO2 := hid (ST.out.out.below hb2)
          clear hb2
          go_wp2_with fail
          refine (CU _).mono ?_
          rintro e w3 ⟨rfl, hb3⟩
          have HB3 := hid (bb HB2.out hb3)
          have HO3 := hid (HO2.out.below hb3)
          clear hb3 HO2 HB2 CE CU hsl
          by_cases hq : ∃ h : E < s.size, s[E] = 62
          · obtain ⟨hEl, hE62⟩ := hq
            have hd11 : decide ((E : Int) < (s.size : Int)) = true := decide_eq_true (by omega)
            have b11 := (byte_t (n := 62) rfl hE62).1
            have HN := hid (HT.out.1 (show V = none by rw [← ST.out.val]; exact lex_bad2 HNE.out HHH.out (by rw [HRE.out, head_at s E hEl, hE62])))
            go_wp2_with fail
            go_ret2
            exact tokPost_none HN.out rfl HB3.out
          · have hlt := HGO.out hq
            have HU := hid (unesc_le hu)
            have HS := hid (show LexSt s w V E w3 f (text ++ u) es u4 from
              ⟨by have := ST.out.fuel; omega, by rw [← ST.out.val, lex_text HNE.out HHH.out (by rw [HRW.out]; exact hu) (fun e => hq ((head_iff s E 62).1 (by rw [← HRE.out]; exact e))), HRE.out], HO3.out, by
                have h1 := ST.out.cnt
                have h2 := HU.out
                have h3 := HEE.out
                rw [List.length_append]
                omega, HB3.out⟩)
            have HAP := hid (bytesOf_app text u)
            have hadd : ¬ 9223372036854775807 < (bytesOf text).size + (bytesOf u).size := by
              rw [bytesOf_size, bytesOf_size]
              have h1 := ST.out.cnt
              have h2 := HU.out
              have h3 := HEE.out
              omega
            have hfin : (decide ((E : Int) < (s.size : Int)) = false) ∨ (decide ((E : Int) < (s.size : Int)) = true ∧ ∃ h : E < s.size, ¬ s[E] = 62) := by
              rcases Nat.lt_or_ge E s.size with h | h
              · exact .inr ⟨decide_eq_true (by omega), h, fun e => hq ⟨h, e⟩⟩
              · exact .inl (decide_eq_false (by omega))
            clear hq
            rcases hfin with hd11 | ⟨hd11, hEl, hE62⟩
            · have hge : ¬ E < s.size := by
                have := of_decide_eq_false hd11
                omega
              go_wp2_with fail
              go_roundw
              case rel => exact ⟨E, f, text ++ u, es, rfl, hE, by rw [HAP.out], HS⟩
              case measure => simp [intOf]; omega
            · have b11 := (byte_f (n := 62) rfl hE62).1
              go_wp2_with fail
              go_roundw
              case rel => exact ⟨E, f, text ++ u, es, rfl, hE, by rw [HAP.out], HS⟩
              case measure => simp [intOf]; omega
      · have hcase : (∃ h : p < s.size, s[p] = 60) ∨ p = s.size := by
          rcases Nat.lt_or_ge p s.size with h | h
          · by_cases h' : s[p] = 60
            · exact .inl ⟨h, h'⟩
            · exact absurd ⟨h, h'⟩ htx
          · exact .inr (by omega)
        clear htx
        obtain ⟨T0, hT0⟩ : ∃ T0 : Bool, (!decide (text = [])) = T0 := ⟨_, rfl⟩
        have hbq : ((bytesOf text).toList != []) = T0 := (bytesOf_beq text).2.trans hT0
        have hbr : (!(bytesOf text).toList.isEmpty) = T0 := by rw [bytesOf_emp]; exact hT0
        have HT0 := hid hT0
        clear hT0
        have HOC := hid ST.out.out
        have HBC := hid HB.out
        rcases hcase with ⟨hpl, h60⟩ | hpe
        · have hd8 : decide ((p : Int) < (s.size : Int)) = true := decide_eq_true (by omega)
          have b8 := (byte_t (n := 60) rfl h60).2
          have HHH := hid (show (s.data.toList.drop p).head? = some 60 by rw [head_at s p hpl, h60])
          have CR := fun w => cRemark s p w (by omega) (by omega)
          cases hr : remL (s.data.toList.drop p) with
          | some r =>
            have hsuf := rem_suf hr
            obtain ⟨h1, h2⟩ := suf_pos (by omega) hsuf.1 hsuf.2
            have hrI : remI s p = ((s.size - r.length : Nat) : Int) := by unfold remI; rw [hr]
            rw [hrI] at CR
            obtain ⟨q, hq⟩ : ∃ q, s.size - r.length = q := ⟨_, rfl⟩
            rw [hq] at h1 h2 CR
            have hqs : q ≤ s.size := by omega
            have HS := hid (show LexSt s w V q wr f text es u4 from ⟨by have := ST.out.fuel; omega, by rw [← ST.out.val, lex_rem HHH.out hr, ← h1], ST.out.out, by have := ST.out.cnt; omega, ST.out.bel⟩)
            have hd17 : decide ((0 : Int) ≤ (q : Int)) = true := decide_eq_true (by omega)
            clear hsuf h1 hrI hq hr
            go_wp2_with fail
            refine (CR _).mono ?_
            rintro e w2 ⟨rfl, rfl⟩
            go_wp2_with fail
            go_roundw
            case rel => exact ⟨q, f, text, es, rfl, hqs, rfl, HS⟩
            case measure => simp [intOf]; omega
          | none =>
            have hrI : remI s p = -1 := by unfold remI; rw [hr]
            rw [hrI] at CR
            have HR := hid hr
            clear hrI hr
            go_wp2_with fail
            refine (CR _).mono ?_
            rintro e w2 ⟨rfl, rfl⟩
            clear CR
            go_upto_if 82 with fail
            go_cut [4, 6] from 27 to 113 (fun v tx wv => tx = .string ⟨#[]⟩ ∧ Hid (∃ es', OutSt wv w.heap.size v es' ∧ es'.map (·.t) = flushL text (es.map (·.t)) ∧ es'.length ≤ es.length + text.length ∧ Below w.heap.size w wv))
            case first =>
              clear hbq hbr
              cases T0 with
              | false =>
                have h0 : text = [] := by
                  have := HT0.out
                  simpa using this
                have HC := hid (show ∃ es', OutSt w2 w.heap.size u4 es' ∧ es'.map (·.t) = flushL text (es.map (·.t)) ∧ es'.length ≤ es.length + text.length ∧ Below w.heap.size w w2 from ⟨es, HOC.out, by unfold flushL; rw [if_pos h0], by omega, HBC.out⟩)
                have hE0 : bytesOf text = ⟨#[]⟩ := by rw [h0]; rfl
                have HE0 := hid hE0
                clear hE0 h0
                go_wp2_with fail
                go_meet
                exact ⟨by rw [HE0.out], HC⟩
              | true =>
                have h0 : ¬ text = [] := by
                  have := HT0.out
                  simpa using this
                have h1 : 1 ≤ text.length := List.length_pos_iff.2 h0
                have HZ := hid (show TkSz 1048576 ⟨3, ⟨#[]⟩, [], bytesOf text⟩ from ⟨by show 0 ≤ 1048576; omega, by show 0 ≤ 1048576; omega, fun x hx => absurd hx List.not_mem_nil, by show (bytesOf text).size ≤ 1048576; rw [bytesOf_size]; have := ST.out.cnt; omega⟩)
                have hcn : es.length ≤ 1048576 := by have := ST.out.cnt; omega
                have HOA := hid (HOC.out.below ((Below.refl _ w2).alloc (Nat.le_refl _) (.cells #[.int .i64 3, .string ⟨#[]⟩, .slice none 0 0, .string (bytesOf text)] 49)))
                have HF := hid (show es.map (·.t) ++ [(⟨3, ⟨#[]⟩, [], bytesOf text⟩ : Tk)] = flushL text (es.map (·.t)) by unfold flushL; rw [if_neg h0])
                have hwB := HBC.out.size
                go_wp2_with (at_builtin; refine wpL_app8 _ rfl _ _ rfl w.heap.size u4 es rfl HOA.out ⟨⟨3, ⟨#[]⟩, [], bytesOf text⟩, none, 0⟩ _ rfl (heap_alloc_new _ _) (fun j hj => absurd hj (Nat.not_lt_zero _)) (fun g o _ e => by cases e) HZ.out hcn (by simp; omega) ?_; intro a' c' w5 ho5 hb5 _)
                go_meet
                exact ⟨rfl, ⟨es ++ [⟨⟨3, ⟨#[]⟩, [], bytesOf text⟩, none, 0⟩], ho5, by rw [List.map_append]; exact HF.out, by rw [List.length_append]; show es.length + 1 ≤ _; omega, ((HBC.out.alloc hwB _).trans hb5)⟩⟩
            case rest =>
              obtain ⟨rfl, HC⟩ := hcut
              obtain ⟨es', ho', hm', hc', hb'⟩ := HC.out
              have HO := hid ho'
              have HM := hid hm'
              have HBW := hid hb'
              have hcnt := ST.out.cnt
              have hcn : es'.length ≤ 100000 := by omega
              have HCN := hid hc'
              have hwB := hb'.size
              clear ho' hm' hb' hc' HC HOC HBC HT0
              have hd22 : ((p : Int) == (s.size : Int)) = false := by simp; omega
              have CT := fun w => cTag s p w hbig hpl h60
              cases ht : tagL (s.data.toList.drop p) with
              | none =>
                have HN := hid (HT.out.1 (show V = none by rw [← ST.out.val]; exact lex_bad3 HHH.out HR.out ht))
                go_wp2_with fail
                refine (CT _).mono ?_
                rintro e w3 ⟨hT1, _, hb3⟩
                obtain rfl := hT1 ht
                have HB3 := hid (bb HBW.out hb3)
                clear hb3 CT hT1
                go_wp2_with fail
                go_ret2
                exact tokPost_none HN.out rfl (HB3.out.alloc HB3.out.size _)
              | some tcr =>
                obtain ⟨t, c, r⟩ := tcr
                obtain ⟨h1, h2⟩ := suf_pos (by omega) (tag_suf ht).1 (tag_suf ht).2
                have HNX := hid (ST.out.val.symm.trans (lex_tag HHH.out HR.out ht))
                rw [← HM.out, h1] at HNX
                obtain ⟨q, hq⟩ : ∃ q, s.size - r.length = q := ⟨_, rfl⟩
                rw [hq] at h2 HNX
                have hqs : q ≤ s.size := by omega
                have HT3 := hid ht
                have HQ := hid hq
                clear h1 ht hq
                go_wp2_with fail
                refine (CT _).mono ?_
                rintro e w3 ⟨_, hT2, hb3⟩
                have hT2 := hT2 t c r HT3.out
                rw [HQ.out] at hT2
                obtain ⟨a, cap, rfl, hat, hz, hg⟩ := hT2
                unfold tkV
                have HZ := hid hz
                have HO3 := hid (HO.out.below hb3)
                have HB3 := hid (bb HBW.out hb3)
                have hs3 := hb3.size
                have HNB := hid (show ∀ k, wc.heap.size ≤ k → ¬ u4.ownBlock = some k from fun k hk e => by have := (HO.out.own.lt k e).2; omega)
                obtain ⟨T, hTT⟩ : ∃ T : Obj, Obj.cells #[.int .i64 t.kind, .string t.name, .slice a t.attrs.length cap, .string t.text] 49 = T := ⟨_, rfl⟩
                have HBL := hid ((((Below.refl w3.heap.size w3).alloc (Nat.le_refl _) T).alloc (by simp) T))
                have HOA := hid (HO3.out.below HBL.out)
                have HAT := hid (hat.below HBL.out)
                have HG := hid (show ∀ g o, 0 < t.attrs.length → a = some ⟨g, o, none⟩ → g < ((w3.alloc T).alloc T).heap.size ∧ ¬ u4.ownBlock = some g from fun g o hl e => by
                  obtain ⟨b, o', e', hlt, _⟩ := hat 0 hl
                  rw [e'] at e
                  cases e
                  exact ⟨Nat.lt_of_lt_of_le hlt HBL.out.size, HNB.out _ (hg _ _ e')⟩)
                have HBX := hid (show w3.alloc T |>.heap[w3.heap.size]? = some T from heap_alloc_new w3 T)
                subst hTT
                clear hat hg hz hT2 hb3 CT HO
                have hd24 : decide ((q : Int) < 0) = false := decide_eq_false (by omega)
                have hB3 := HB3.out.size
                clear hbq hbr
                go_wp2_with (at_builtin; refine stopW ?_)
                apply hid
                refine wpL_app8 _ rfl _ _ rfl w.heap.size u4 es' rfl HOA.out ⟨t, a, cap⟩ _ rfl (heap2 w3 _ _).2 HAT.out HG.out HZ.out (by omega) (by simp; omega) ?_
                intro a' c' w5 ho5 hb5 hg5
                have HT5 := hid ((hg5.block w3.heap.size (by simp; omega) (fun e => HNB.out _ hs3 e.symm)).trans (heap2 w3 _ _).1)
                have HB5 := hid (((HB3.out.alloc hB3 _).alloc (by simp; omega) _).trans hb5)
                have HO5 := hid ho5
                have hfu := ST.out.fuel
                have hB5 := HB5.out.size
                clear ho5 hb5 hg5 HOA HAT HG HBX HBL HNB HO3 HB3
                cases c with
                | false =>
                  have HS := hid (show LexSt s w V q w5 f [] (es' ++ [⟨t, a, cap⟩]) (.slice a' (es'.length + 1) c') from
                    ⟨by omega, by rw [List.map_append]; exact HNX.out.symm, HO5.out, by rw [List.length_append]; show es'.length + 1 + 0 ≤ 2 * q; have := HCN.out; omega, HB5.out⟩)
                  go_wp2_with fail
                  go_roundw
                  case rel => exact ⟨q, f, [], _, rfl, hqs, rfl, HS⟩
                  case measure => simp [intOf]; omega
                | true =>
                  have HZ2 := hid (show TkSz 1048576 ⟨2, t.name, [], ⟨#[]⟩⟩ from ⟨HZ.out.1, by show 0 ≤ 1048576; omega, fun x hx => absurd hx List.not_mem_nil, by show 0 ≤ 1048576; omega⟩)
                  have HOB := hid (HO5.out.below ((Below.refl _ w5).alloc (Nat.le_refl _) (.cells #[.int .i64 2, .string t.name, .slice none 0 0, .string ⟨#[]⟩] 49)))
                  have hl1 : (es' ++ [(⟨t, a, cap⟩ : TkE)]).length = es'.length + 1 := by rw [List.length_append]; rfl
                  obtain ⟨⟨t0, t1, t2, t3⟩, tf0, tf1, tf2, tf3⟩ := box4 HT5.out
                  go_wp2_with (at_builtin; refine stopW ?_)
                  apply hid
                  refine wpL_app8 _ rfl _ _ rfl w.heap.size _ _ rfl HOB.out ⟨⟨2, t.name, [], ⟨#[]⟩⟩, none, 0⟩ _ rfl (heap_alloc_new _ _) (fun j hj => absurd hj (Nat.not_lt_zero _)) (fun g o _ e => by cases e) HZ2.out (by rw [hl1]; omega) (by simp; omega) ?_
                  intro a2 c2 w6 ho6 hb6 hg6
                  have HB6 := hid ((HB5.out.alloc hB5 _).trans hb6)
                  have HS := hid (show LexSt s w V q w6 f [] (es' ++ [⟨t, a, cap⟩] ++ [⟨⟨2, t.name, [], ⟨#[]⟩⟩, none, 0⟩]) (.slice a2 (es'.length + 1 + 1) c2) from
                    ⟨by omega, by rw [List.map_append, List.map_append, List.append_assoc]; exact HNX.out.symm, by rw [hl1] at ho6; exact ho6, by rw [List.length_append, hl1]; show es'.length + 1 + 1 + 0 ≤ 2 * q; have := HCN.out; omega, HB6.out⟩)
                  clear ho6 hb6 hg6
                  go_wp2_with fail
                  go_roundw
                  case rel => exact ⟨q, f, [], _, rfl, hqs, rfl, HS⟩
                  case measure => simp [intOf]; omega
        · subst hpe
          have hd8 : decide ((s.size : Int) < (s.size : Int)) = false := decide_eq_false (by omega)
          go_upto_if 82 with fail
          go_cut [4, 6] from 27 to 113 (fun v tx wv => tx = .string ⟨#[]⟩ ∧ Hid (∃ es', OutSt wv w.heap.size v es' ∧ es'.map (·.t) = flushL text (es.map (·.t)) ∧ es'.length ≤ es.length + text.length ∧ Below w.heap.size w wv))
          case first =>
            clear hbq hbr
            cases T0 with
            | false =>
              have h0 : text = [] := by
                have := HT0.out
                simpa using this
              have HC := hid (show ∃ es', OutSt wr w.heap.size u4 es' ∧ es'.map (·.t) = flushL text (es.map (·.t)) ∧ es'.length ≤ es.length + text.length ∧ Below w.heap.size w wr from ⟨es, HOC.out, by unfold flushL; rw [if_pos h0], by omega, HBC.out⟩)
              have hE0 : bytesOf text = ⟨#[]⟩ := by rw [h0]; rfl
              have HE0 := hid hE0
              clear hE0 h0
              go_wp2_with fail
              go_meet
              exact ⟨by rw [HE0.out], HC⟩
            | true =>
              have h0 : ¬ text = [] := by
                have := HT0.out
                simpa using this
              have h1 : 1 ≤ text.length := List.length_pos_iff.2 h0
              have HZ := hid (show TkSz 1048576 ⟨3, ⟨#[]⟩, [], bytesOf text⟩ from ⟨by show 0 ≤ 1048576; omega, by show 0 ≤ 1048576; omega, fun x hx => absurd hx List.not_mem_nil, by show (bytesOf text).size ≤ 1048576; rw [bytesOf_size]; have := ST.out.cnt; omega⟩)
              have hcn : es.length ≤ 1048576 := by have := ST.out.cnt; omega
              have HOA := hid (HOC.out.below ((Below.refl _ wr).alloc (Nat.le_refl _) (.cells #[.int .i64 3, .string ⟨#[]⟩, .slice none 0 0, .string (bytesOf text)] 49)))
              have HF := hid (show es.map (·.t) ++ [(⟨3, ⟨#[]⟩, [], bytesOf text⟩ : Tk)] = flushL text (es.map (·.t)) by unfold flushL; rw [if_neg h0])
              have hwB := HBC.out.size
              go_wp2_with (at_builtin; refine wpL_app8 _ rfl _ _ rfl w.heap.size u4 es rfl HOA.out ⟨⟨3, ⟨#[]⟩, [], bytesOf text⟩, none, 0⟩ _ rfl (heap_alloc_new _ _) (fun j hj => absurd hj (Nat.not_lt_zero _)) (fun g o _ e => by cases e) HZ.out hcn (by simp; omega) ?_; intro a' c' w5 ho5 hb5 _)
              go_meet
              exact ⟨rfl, ⟨es ++ [⟨⟨3, ⟨#[]⟩, [], bytesOf text⟩, none, 0⟩], ho5, by rw [List.map_append]; exact HF.out, by rw [List.length_append]; show es.length + 1 ≤ _; omega, ((HBC.out.alloc hwB _).trans hb5)⟩⟩
          case rest =>
            obtain ⟨rfl, HC⟩ := hcut
            obtain ⟨es', ho', hm', hc', hb'⟩ := HC.out
            have HV := hid (show V = some (es'.map (·.t)) by rw [← ST.out.val, drop_end s s.size (Nat.le_refl _), lex_end, hm'])
            obtain ⟨a, cap, rfl, hrow⟩ := ho'.row
            have HSZ := hid ho'.tksSz
            have hcnt := ST.out.cnt
            obtain ⟨ts, hts⟩ : ∃ ts, es'.map (·.t) = ts := ⟨_, rfl⟩
            have hl : es'.length = ts.length := by rw [← hts, List.length_map]
            rw [hts] at hrow HSZ HV
            have HRW := hid hrow
            have HBW := hid hb'
            have HK := hid (HT.out.2 ts HV.out)
            rw [hl]
            have hN : ts.length ≤ 20000 := by omega
            clear hm' hc' hb' hrow hts hl HC ho' ST HV HB HOC HBC HT0
            obtain ⟨N, hNN⟩ : ∃ N, ts.length = N := ⟨_, rfl⟩
            have HN := hid hNN
            rw [hNN] at hN ⊢
            clear hNN
            have hd22 : ((s.size : Int) == (s.size : Int)) = true := by simp
            go_wp2_with fail
            clear hd22
            go_loopw [15] (fun x wr => ∃ i : Nat, x = .int .i64 (i : Int) ∧ i ≤ N ∧ Hid (∀ m (h : m < ts.length), m < i → tokB ts[m] = true) ∧ Hid (Below wc.heap.size wc wr)) (fun x _ => N - (intOf x).toNat)
            case atStart => exact ⟨0, rfl, Nat.zero_le _, fun m _ h => absurd h (Nat.not_lt_zero _), Below.refl _ _⟩
            case round =>
              obtain ⟨i, rfl, hi, HI, HB⟩ := hrel
              by_cases hlt : i < N
              · have his : i < ts.length := by rw [HN.out]; exact hlt
                have hin : (i : Int) < (N : Int) := by omega
                obtain ⟨b, o, aa, ca, rfl, hb, c0, c1, c2, c3, cr⟩ := HRW.out.below HB.out i his
                have C := cTokenOkS ts[i] aa ca wr cr (HSZ.out _ (List.getElem_mem his))
                unfold tkV at C
                cases hk : tokB ts[i] with
                | true =>
                  rw [hk] at C
                  have HI2 := hid (show ∀ m (h : m < ts.length), m < i + 1 → tokB ts[m] = true from fun m h hm => by
                    rcases Nat.lt_or_eq_of_le (Nat.le_of_lt_succ hm) with h' | h'
                    · exact HI.out m h h'
                    · subst h'; exact hk)
                  clear hk cr
                  go_wp2_with fail
                  refine C.mono ?_
                  rintro e w3 ⟨rfl, hb3⟩
                  have HB3 := hid (bb HB.out hb3)
                  clear hb3 C c0 c1 c2 c3
                  go_wp2_with fail
                  go_roundw
                  case rel => exact ⟨i + 1, by go_num, by omega, HI2, HB3⟩
                  case measure => simp [intOf]; omega
                | false =>
                  rw [hk] at C
                  have HW := hid (HK.out.2.1 (fun h => by rw [h _ (List.getElem_mem his)] at hk; cases hk))
                  clear hk cr
                  go_wp2_with fail
                  refine C.mono ?_
                  rintro e w3 ⟨rfl, hb3⟩
                  have HB3 := hid (bb HBW.out (bb HB.out hb3))
                  clear hb3 C c0 c1 c2 c3
                  go_wp2_with fail
                  go_ret2
                  exact tokPost_none HW.out rfl HB3.out
              · have hie : i = N := by omega
                subst hie
                have HB3 := hid (bb HBW.out HB.out)
                by_cases h120 : ts.length ≤ 120
                · have hd35 : decide ((120 : Int) < (i : Int)) = false := decide_eq_false (by have := HN.out; omega)
                  have HW := hid (HK.out.1 (fun t ht => by
                    obtain ⟨m, hm, rfl⟩ := List.getElem_of_mem ht
                    exact HI.out m hm (by have := HN.out; omega)) h120)
                  have HR3 := hid (HRW.out.below HB.out)
                  go_wp2_with fail
                  go_ret2
                  exact tokPost_some HW.out (by have h := HN.out; subst h; rfl) HR3.out HSZ.out HB3.out
                · have hd35 : decide ((120 : Int) < (i : Int)) = true := decide_eq_true (by have := HN.out; omega)
                  have HW := hid (HK.out.2.2 h120)
                  go_wp2_with fail
                  go_ret2
                  exact tokPost_none HW.out rfl HB3.out

end Go.Proofs.YteninofjeidljaaGreat

namespace Go.Proofs.YteninofjeidljaaGreat

open Go.RowKit

set_option linter.unusedVariables false

set_option linter.unusedSimpArgs false

theorem tokB_kindS {t : Tk} (h : tokB t = true) : t.kind = 1 ∨ t.kind = 2 ∨ t.kind = 3 := by
  unfold tokB at h
  split at h
  · exact .inl (by assumption)
  · split at h
    · exact .inr (.inl (by assumption))
    · split at h
      · exact .inr (.inr (by assumption))
      · cases h

/-- What the loop of Grown knows. -/
structure GrowSt (l : List Tk) (w : World) (i : Nat) (wr : World) (v : Value) (s : GSt) (es : List Nd.E) : Prop where
  val : gRun (l.drop i) s = gRun l ⟨[], -1, false⟩
  row : Nd.Row wr w.heap.size v es
  map : es.map (·.t) = s.out
  inv : GInv s
  cnt : es.length ≤ i
  bel : Below w.heap.size w wr
  sz : TksSz 1048576 s.out

theorem TksSz.snoc {l : List Tk} {t : Tk} (h : TksSz 1048576 l) (ht : TkSz 1048576 t) : TksSz 1048576 (l ++ [t]) := by
  intro x hx
  rcases List.mem_append.1 hx with h' | h'
  · exact h x h'
  · rw [List.mem_singleton] at h'
    subst h'
    exact ht

/-- The contract's end, where nothing grows. -/
def GrowPost (l : List Tk) (w : World) (e : Ending) (w' : World) : Prop :=
  ∃ a c, e = .returned (.tuple #[.slice a ((grownT l).getD []).length c, .bool (grownT l).isSome]) ∧ TkRow w' a ((grownT l).getD []) ∧ Below w.heap.size w w'

theorem GrowPost.no {l : List Tk} {w w' : World} {a : Option Addr} {c : Nat} (h : grownT l = none) (hb : Below w.heap.size w w') : GrowPost l w (.returned (.tuple #[.slice a 0 c, .bool false])) w' :=
  ⟨a, c, by rw [h]; rfl, by rw [h]; exact fun j hj => absurd hj (Nat.not_lt_zero _), hb⟩

theorem GrowPost.yes {l ts : List Tk} {w w' : World} {a : Option Addr} {n c : Nat} (h : grownT l = some ts) (hn : n = ts.length) (hr : TkRow w' a ts) (hb : Below w.heap.size w w') : GrowPost l w (.returned (.tuple #[.slice a n c, .bool true])) w' :=
  ⟨a, c, by rw [h, hn]; rfl, by rw [h]; exact hr, hb⟩

set_option maxRecDepth 8000 in
set_option maxHeartbeats 8000000 in
theorem cGrownS (a : Option Addr) (cap : Nat) (l : List Tk) (w : World) (hR : TkRow w a l) (hn : l.length ≤ 1048576) (hz : TksSz 1048576 l) :
    Calls Tryz.prog 13 #[.slice a l.length cap] w (GrowPost l w) := by
  have HR := hid hR
  have HZ := hid hz
  have M0 := hid (heap_alloc_new w (.cells #[] 42))
  have HB0 := hid (((Below.refl w.heap.size w).alloc (Nat.le_refl _) (.cells #[] 42)).alloc (by simp) (.cells #[] 42))
  have M1 := hid (blk_alloc M0.out (.cells #[] 42))
  clear hR hz M0
  obtain ⟨n, hnn⟩ : ∃ n, l.length = n := ⟨_, rfl⟩
  have HN := hid hnn
  rw [hnn] at hn ⊢
  clear hnn
  go_enter Tryz.func13, Tryz.ntmps13
  go_wp2_with fail
  go_loopw [4, 6, 7, 8] (fun v x d y wr => ∃ (i : Nat) (s : GSt) (es : List Nd.E) (a' : Option Addr) (c' : Nat), y = .int .i64 (i : Int) ∧ i ≤ n ∧ x = .int .i64 s.at_ ∧ d = .bool s.done ∧ Hid (v = .slice a' es.length c') ∧ Hid (GrowSt l w i wr (.slice a' es.length c') s es)) (fun _ _ _ y _ => n - (intOf y).toNat)
  case atStart => exact ⟨0, ⟨[], -1, false⟩, [], _, _, rfl, Nat.zero_le _, rfl, rfl, hid rfl, ⟨rfl, Nd.Row.start _ _ _ (Nat.le_refl _) M1.out, rfl, GInv.start, Nat.le_refl _, HB0.out, fun t ht => absurd ht List.not_mem_nil⟩⟩
  case round =>
    clear M1 HB0
    obtain ⟨i, ⟨out, at_, done⟩, es, a', c', rfl, hi, rfl, rfl, HV, ST⟩ := hrel
    have hv := HV.out
    subst hv
    clear HV
    simp only
    have hcnt := ST.out.cnt
    have hlo := ST.out.inv.lo
    have hhi := ST.out.inv.hi
    simp only at hlo hhi
    have hol : es.length = out.length := by have := congrArg List.length ST.out.map; rw [List.length_map] at this; exact this
    have hwB := ST.out.bel.size
    by_cases hlt : i < n
    case neg =>
      have hie : i = n := by omega
      have hg := ST.out.val
      rw [show l.drop i = [] from List.drop_of_length_le (by rw [HN.out, hie]; exact Nat.le_refl _)] at hg
      have HG := hid (grownT_end hg.symm)
      simp only at HG
      obtain ⟨a2, c2, e2, htk⟩ := ST.out.row.tkRow
      obtain ⟨rfl, rfl⟩ : a' = a2 ∧ c' = c2 := by cases e2; exact ⟨rfl, rfl⟩
      rw [ST.out.map] at htk
      simp only at htk
      have HTK := hid htk
      have CT := hid (cTreeOkS a' c' out wr htk (by omega) ST.out.sz)
      rw [hol]
      have HBL := hid ST.out.bel
      clear hg e2 htk hlt
      subst hie
      cases done
      · have HW := hid (show grownT l = none by rw [HG.out]; exact if_neg (fun h => by cases h.1))
        clear CT
        go_wp2_with fail
        go_ret2
        exact GrowPost.no HW.out HBL.out
      · cases q : treeB out
        · have HW := hid (show grownT l = none by rw [HG.out]; exact if_neg (fun h => by rw [q] at h; cases h.2))
          rw [q] at CT
          go_wp2_with fail
          refine CT.out.mono ?_
          rintro e w1 ⟨rfl, hb1⟩
          have HB1 := hid (bb HBL.out hb1)
          clear hb1 CT
          go_wp2_with fail
          go_ret2
          exact GrowPost.no HW.out HB1.out
        · have HW := hid (show grownT l = some out by rw [HG.out]; exact if_pos ⟨rfl, q⟩)
          rw [q] at CT
          go_wp2_with fail
          refine CT.out.mono ?_
          rintro e w1 ⟨rfl, hb1⟩
          have HB1 := hid (bb HBL.out hb1)
          have HT1 := hid (HTK.out.below hb1)
          clear hb1 CT
          go_wp2_with fail
          go_ret2
          exact GrowPost.yes HW.out rfl HT1.out HB1.out
    have HOL := hid hol
    clear hol
    have his : i < l.length := by rw [HN.out]; exact hlt
    have hin : (i : Int) < (n : Int) := by omega
    have HD := hid (show l.drop i = l[i] :: l.drop (i + 1) from List.drop_eq_getElem_cons his)
    obtain ⟨b, o, aa, ca, rfl, hb, c0, c1, c2, c3, cr⟩ := (HR.out.below ST.out.bel) i his
    have hzt := HZ.out _ (List.getElem_mem his)
    obtain ⟨t, ht⟩ : ∃ t, l[i] = t := ⟨_, rfl⟩
    rw [ht] at c0 c1 c2 c3 cr hzt HD
    clear ht
    have HZT := hid hzt
    obtain ⟨tk, tn, tl, tx⟩ := t
    simp only at c0 c1 c2 c3 cr
    have M9 := hid (heap_alloc_new wr (.cells #[.int .i64 tk, .string tn, .slice aa tl.length ca, .string tx] 49))
    have HL9 := hid ((Below.refl wr.heap.size wr).alloc (Nat.le_refl _) (.cells #[.int .i64 tk, .string tn, .slice aa tl.length ca, .string tx] 49))
    have CR := hid (cr.below HL9.out)
    have CO := hid (fun wx (h : AtRow wx aa tl) => cTokenOkS ⟨tk, tn, tl, tx⟩ aa ca wx h hzt)
    simp only [tkV] at CO
    have HB9 := hid (bb ST.out.bel HL9.out)
    obtain ⟨m, hm⟩ : ∃ m, tl.length = m := ⟨_, rfl⟩
    have HM := hid hm
    rw [hm] at c2 M9 HL9 CR CO HB9
    have HBAD : Hid (gStep ⟨out, at_, done⟩ ⟨tk, tn, tl, tx⟩ = none → grownT l = none) := fun h => grownT_none (by
      have := ST.out.val
      rw [HD.out, gRun_bad h] at this
      exact this.symm)
    have HGO : Hid (∀ s', gStep ⟨out, at_, done⟩ ⟨tk, tn, tl, tx⟩ = some s' → gRun (l.drop (i + 1)) s' = gRun l ⟨[], -1, false⟩) := fun s' h => by
      have := ST.out.val
      rw [HD.out, gRun_step h] at this
      exact this
    clear cr hzt hm
    cases qt : tokB ⟨tk, tn, tl, tx⟩
    · have HW := hid (HBAD.out (gStep_no (.inl qt)))
      rw [qt] at CO
      go_wp2_with fail
      refine (CO.out _ CR.out).mono ?_
      rintro e w1 ⟨rfl, hb1⟩
      have HB1 := hid (bb HB9.out hb1)
      clear hb1 c0 c1 c2 c3
      go_wp2_with fail
      go_ret2
      exact GrowPost.no HW.out HB1.out
    · rw [qt] at CO
      cases done
      case true =>
        have HW := hid (HBAD.out (gStep_no (.inr rfl)))
        go_wp2_with fail
        refine (CO.out _ CR.out).mono ?_
        rintro e w1 ⟨rfl, hb1⟩
        have HB1 := hid (bb HB9.out hb1)
        clear hb1 c0 c1 c2 c3
        go_wp2_with fail
        go_ret2
        exact GrowPost.no HW.out HB1.out
      case false =>
        have hk := tokB_kindS qt
        simp only at hk
        rcases hk with rfl | rfl | rfl
        · have HGO1 := hid (HGO.out _ (gStep_one qt rfl rfl))
          simp only at HGO1
          have HINV := hid (ST.out.inv.snoc ⟨at_, tn, tl, ⟨#[]⟩⟩ rfl (out.length : Int) false (by omega) (by show (out.length : Int) < (out.length : Int) + 1; omega))
          have HSZ := hid (ST.out.sz.snoc (t := ⟨at_, tn, tl, ⟨#[]⟩⟩) ⟨HZT.out.1, HZT.out.2.1, HZT.out.2.2.1, Nat.zero_le _⟩)
          have CC := hid (fun wx (h : AtRow wx aa tl) => cCopyS aa ca tl wx h HZT.out.2.1)
          rw [HM.out] at CC
          go_wp2_with fail
          refine (CO.out _ CR.out).mono ?_
          rintro e w1 ⟨rfl, hb1⟩
          have HB1 := hid (bb HB9.out hb1)
          have M1 := hid (blk_below M9.out hb1)
          have CR1 := hid (CR.out.below hb1)
          have HR1 := hid ((ST.out.row.below HL9.out).below hb1)
          have hg9 : wr.heap.size < w1.heap.size := lt_of_heap M1.out
          have hob : ∀ g, (Value.slice a' es.length c').ownBlock = some g → g < wr.heap.size := fun g hg => (ST.out.row.own.lt g hg).2
          have HOB := hid hob
          obtain ⟨⟨x0, x1, x2, x3⟩, _⟩ := box4 M1.out
          clear hb1 c0 c1 c2 c3 CO M9 HL9 CR HB9 hob
          have HK := hid (And.intro x1 x2)
          have HBc := hid ((Below.refl w1.heap.size w1).drew)
          have hg9' := hid hg9
          go_wp2_with fail
          go_region_held3 (fun w' => w'.cell? ⟨wr.heap.size, 1, none⟩ = some (.string tn) ∧ w'.cell? ⟨wr.heap.size, 2, none⟩ = some (.slice aa m ca)) (first | exact HKE.out | exact ⟨(HBc.out.cell (p := ⟨wr.heap.size, 1, none⟩) hg9'.out).trans HK.out.1, (HBc.out.cell (p := ⟨wr.heap.size, 2, none⟩) hg9'.out).trans HK.out.2⟩ | go_keep)
            (first
              | (go_at_call 53; refine (CC.out _ (CR1.out.below HBc.out)).mono ?_; rintro e w2 ⟨a1, cc1, rfl, ha1, hb2⟩; have HA1 := hid (show OwnAts w2 w1.heap.size a1 tl from ha1); replace HBc := hid (bb HBc.out hb2); clear hb2 ha1)
              | (have M5 := heap_alloc_new w2 (.cells #[.int .i64 at_, .string tn, .slice a1 m cc1, .string ⟨#[]⟩] 42); have HL5 := hid ((Below.refl w2.heap.size w2).alloc (Nat.le_refl _) (.cells #[.int .i64 at_, .string tn, .slice a1 m cc1, .string ⟨#[]⟩] 42)); rw [← HM.out] at M5; have HO5 := Nd.Row.one (B := w1.heap.size) (e := ⟨⟨at_, tn, tl, ⟨#[]⟩⟩, a1, cc1⟩) HBc.out.size M5 (by rw [HM.out]; exact HA1.out.below HL5.out) (fun g o h e => by obtain ⟨g', o', cu, e', _, hh, _⟩ := HA1.out h; simp only at e; rw [e] at e'; cases e'; have := lt_of_heap hh; omega); rw [HM.out] at HO5; have HR5 := hid ((HR1.out.below HBc.out).below HL5.out); have HAL := hid (HR1.out.apart_later HO5 (Nat.le_refl _)); obtain ⟨g5, hg5, hone, hcell⟩ := HO5.cells (by simp); cases hg5; clear hone; refine Nd.step_join rfl _ _ rfl w.heap.size _ es [⟨⟨at_, tn, tl, ⟨#[]⟩⟩, a1, cc1⟩] rfl HR5.out w2.heap.size 1 1 rfl rfl hcell (fun x hx => ⟨((HO5.mono HB1.out.size).ats x hx).1, HAL.out.2 x hx⟩) HO5.apart HAL.out.1 (by simp; omega) (by have := HBc.out.size; have := HB1.out.size; simp; omega) ?_; intro a5 c5 w5 hr5 hb5 hg5; have HR6 := hid hr5; have HB6 := hid ((bb (bb HB1.out HBc.out) HL5.out).trans hb5); have HKE := hid (show w5.cell? ⟨wr.heap.size, 1, none⟩ = some (.string tn) ∧ w5.cell? ⟨wr.heap.size, 2, none⟩ = some (.slice aa m ca) from (box4 ((hg5.block wr.heap.size (by have := HBc.out.size; have := hg9'.out; simp; omega) (fun x => by have := HOB.out _ x.symm; omega)).trans (blk_below (blk_below M1.out HBc.out) HL5.out))).1.2.imp id (fun x => x.1)); clear hr5 hb5 hg5 hcell HO5 M5))
          have HMP := hid (show (es ++ [(⟨⟨at_, tn, tl, ⟨#[]⟩⟩, a1, cc1⟩ : Nd.E)]).map (·.t) = out ++ [⟨at_, tn, tl, ⟨#[]⟩⟩] by rw [List.map_append, ST.out.map]; rfl)
          have hl5 : (es ++ [(⟨⟨at_, tn, tl, ⟨#[]⟩⟩, a1, cc1⟩ : Nd.E)]).length = es.length + 1 := by simp
          have HL5 := hid hl5
          clear hl5 x0 x1 x2 x3 HK HBc
          go_wp2_with fail
          go_roundw
          case rel => exact ⟨i + 1, ⟨out ++ [⟨at_, tn, tl, ⟨#[]⟩⟩], (out.length : Int), false⟩, es ++ [⟨⟨at_, tn, tl, ⟨#[]⟩⟩, a1, cc1⟩], a5, c5, by go_num, by omega, by rw [← HOL.out], rfl, hid (by rw [HL5.out]), ⟨HGO1.out, HR6.out, HMP.out, HINV.out, by rw [HL5.out]; omega, HB6.out, HSZ.out⟩⟩
          case measure => simp [intOf]; omega
        · by_cases ha0 : at_ < 0
          · have HW := hid (HBAD.out (gStep_no2 rfl (.inl ha0)))
            have hd1 : decide (at_ < 0) = true := decide_eq_true ha0
            clear ha0
            go_wp2_with fail
            refine (CO.out _ CR.out).mono ?_
            rintro e w1 ⟨rfl, hb1⟩
            have HB1 := hid (bb HB9.out hb1)
            have M1 := hid (blk_below M9.out hb1)
            obtain ⟨⟨x0, x1, x2, x3⟩, _⟩ := box4 M1.out
            clear hb1 c0 c1 c2 c3
            go_wp2_with fail
            go_quiet (fail)
            go_wp2_with fail
            go_ret2
            exact GrowPost.no HW.out (below_drewN HB1.out _)
          · obtain ⟨q, rfl⟩ : ∃ q : Nat, at_ = q := ⟨at_.toNat, by omega⟩
            have hqo : q < out.length := by omega
            have hqe : (q : Int) < (es.length : Int) := by have := HOL.out; omega
            have hd1 : decide ((q : Int) < 0) = false := decide_eq_false (by omega)
            have HNA := hid (nodeAt_at hqo)
            have zq := (ST.out.sz _ (List.getElem_mem hqo)).1
            have zn := HZT.out.1
            simp only at zq zn
            have CO2 := hid (CO.out _ CR.out)
            obtain ⟨a2, c2', e2, htk⟩ := ST.out.row.tkRow
            obtain ⟨rfl, rfl⟩ : a' = a2 ∧ c' = c2' := by cases e2; exact ⟨rfl, rfl⟩
            rw [ST.out.map] at htk
            simp only at htk
            have HTK := hid (htk.below HL9.out)
            clear e2 htk CO ha0 hlo hhi
            by_cases hq : out[q].name = tn
            · have HGO1 := hid (HGO.out _ (gStep_two qt rfl rfl (by show ¬ (q : Int) < 0; omega) (by show (nodeAt out ((q : Int)).toNat).name = tn; rw [Int.toNat_natCast, nodeAt_at hqo]; exact hq)))
              simp only [Int.toNat_natCast] at HGO1
              have HINV := hid (ST.out.inv.up (by show ¬ (q : Int) < 0; omega) (decide ((q : Int) = 0)))
              simp only [Int.toNat_natCast] at HINV
              have hd2 : (out[q].name.toList == tn.toList) = true := by rw [str_beq]; exact decide_eq_true hq
              clear hq
              go_wp2_with fail
              refine CO2.out.mono ?_
              rintro e w1 ⟨rfl, hb1⟩
              have HB1 := hid (bb HB9.out hb1)
              have HR1 := hid ((ST.out.row.below HL9.out).below hb1)
              have M1 := hid (blk_below M9.out hb1)
              obtain ⟨⟨x0, x1, x2, x3⟩, _⟩ := box4 M1.out
              obtain ⟨b2, o2, rfl, y0, y1⟩ := (HTK.out.below hb1).kindAt q hqo
              clear hb1 c0 c1 c2 c3
              generalize out[q].name = nm at *
              obtain ⟨P, hP⟩ : ∃ P, parI out q = P := ⟨_, rfl⟩
              have HP := hid hP
              rw [hP] at y0
              clear hP
              have hde : ((q : Int) == 0) = decide ((q : Int) = 0) := rfl
              have HDE := hid hde
              clear hde
              go_wp2_with fail
              go_quiet (fail)
              go_wp2_with fail
              go_roundw
              case rel => exact ⟨i + 1, ⟨out, parI out q, decide ((q : Int) = 0)⟩, es, _, c', by go_num, by omega, by rw [HP.out], congrArg Value.bool HDE.out, hid rfl, ⟨HGO1.out, HR1.out.below (below_drewN (Below.refl _ _) _), ST.out.map, HINV.out, by omega, below_drewN HB1.out _, ST.out.sz⟩⟩
              case measure => simp [intOf]; omega
            · have HW := hid (HBAD.out (gStep_no2 rfl (.inr (by show ¬ (nodeAt out ((q : Int)).toNat).name = tn; rw [Int.toNat_natCast, nodeAt_at hqo]; exact hq))))
              have hd2 : (out[q].name.toList == tn.toList) = false := by rw [str_beq]; exact decide_eq_false hq
              clear hq
              go_wp2_with fail
              refine CO2.out.mono ?_
              rintro e w1 ⟨rfl, hb1⟩
              have HB1 := hid (bb HB9.out hb1)
              have M1 := hid (blk_below M9.out hb1)
              obtain ⟨⟨x0, x1, x2, x3⟩, _⟩ := box4 M1.out
              obtain ⟨b2, o2, rfl, y0, y1⟩ := (HTK.out.below hb1).kindAt q hqo
              clear hb1 c0 c1 c2 c3
              generalize out[q].name = nm at *
              go_wp2_with fail
              go_quiet (fail)
              go_wp2_with fail
              go_ret2
              exact GrowPost.no HW.out (below_drewN HB1.out _)
        · have HGO1 := hid (HGO.out _ (gStep_three qt rfl rfl))
          simp only at HGO1
          have HINV := hid (ST.out.inv.snoc ⟨at_, ⟨#[]⟩, [], tx⟩ rfl at_ false hlo (by show at_ < (out.length : Int) + 1; omega))
          have HSZ := hid (ST.out.sz.snoc (t := ⟨at_, ⟨#[]⟩, [], tx⟩) ⟨Nat.zero_le _, Nat.zero_le _, fun x hx => absurd hx List.not_mem_nil, HZT.out.2.2.2⟩)
          go_wp2_with fail
          refine (CO.out _ CR.out).mono ?_
          rintro e w1 ⟨rfl, hb1⟩
          have HB1 := hid (bb HB9.out hb1)
          have M1 := hid (blk_below M9.out hb1)
          have HR1 := hid ((ST.out.row.below HL9.out).below hb1)
          obtain ⟨⟨x0, x1, x2, x3⟩, _⟩ := box4 M1.out
          clear hb1 c0 c1 c2 c3 CO M9 HL9 CR HB9
          have M5 := hid (heap_alloc_new w1 (.cells #[.int .i64 at_, .string ⟨#[]⟩, .slice none 0 0, .string tx] 42))
          have HL5 := hid ((Below.refl w1.heap.size w1).alloc (Nat.le_refl _) (.cells #[.int .i64 at_, .string ⟨#[]⟩, .slice none 0 0, .string tx] 42))
          have HR5 := hid (HR1.out.below HL5.out)
          have HO5 := hid (Nd.Row.one (B := w1.heap.size) (e := ⟨⟨at_, ⟨#[]⟩, [], tx⟩, none, 0⟩) (Nat.le_refl w1.heap.size) M5.out (fun h => absurd h (Nat.not_lt_zero _)) (fun g o h => absurd h (Nat.not_lt_zero _)))
          obtain ⟨g5, hg5, hone, hcell⟩ := HO5.out.cells (by simp)
          cases hg5
          clear hone
          have HCL := hid hcell
          have HMP := hid (show (es ++ [(⟨⟨at_, ⟨#[]⟩, [], tx⟩, none, 0⟩ : Nd.E)]).map (·.t) = out ++ [⟨at_, ⟨#[]⟩, [], tx⟩] by rw [List.map_append, ST.out.map]; rfl)
          have hl5 : (es ++ [(⟨⟨at_, ⟨#[]⟩, [], tx⟩, none, 0⟩ : Nd.E)]).length = es.length + 1 := by simp
          have HLE := hid hl5
          have hwB1 := HB1.out.size
          clear hcell hl5
          go_wp2_with (at_builtin; refine Nd.wpL_join _ rfl _ _ rfl w.heap.size _ es [⟨⟨at_, ⟨#[]⟩, [], tx⟩, none, 0⟩] rfl HR5.out w1.heap.size 1 1 rfl rfl HCL.out (fun x hx => ?d1) (List.pairwise_singleton _ _) (fun e he x hx => ?d2) ?d3 ?d4 ?_)
          case d1 =>
            rw [List.mem_singleton] at hx
            subst hx
            exact ⟨fun h => absurd h (Nat.not_lt_zero _), fun g o h => absurd h (Nat.not_lt_zero _)⟩
          case d2 =>
            rw [List.mem_singleton] at hx
            subst hx
            exact fun _ h => absurd h (Nat.not_lt_zero _)
          case d3 => simp; omega
          case d4 => simp; omega
          intro a5 c5 w5 hr5 hb5 _
          have HR6 := hid hr5
          have HB6 := hid ((bb HB1.out HL5.out).trans hb5)
          clear hr5 hb5 x0 x1 x2 x3
          go_wp2_with fail
          go_roundw
          case rel => exact ⟨i + 1, ⟨out ++ [⟨at_, ⟨#[]⟩, [], tx⟩], at_, false⟩, es ++ [⟨⟨at_, ⟨#[]⟩, [], tx⟩, none, 0⟩], a5, c5, by go_num, by omega, rfl, rfl, hid (by rw [HLE.out]), ⟨HGO1.out, by rw [HLE.out]; exact HR6.out, HMP.out, HINV.out, by rw [HLE.out]; omega, HB6.out, HSZ.out⟩⟩
          case measure => simp [intOf]; omega

end Go.Proofs.YteninofjeidljaaGreat

namespace Go.Proofs.YteninofjeidljaaGreat

open Go.RowKit

set_option linter.unusedVariables false

set_option linter.unusedSimpArgs false

set_option maxHeartbeats 2000000 in
theorem cTokensT (s : ByteArray) (w : World) (hs : s.size ≤ maxLen) : Calls Tryz.prog 68 #[.string s] w (TokPost s w) := by
  by_cases hbig : s.size ≤ 4000
  · exact cTokensS s w (by omega)
  · have hlen : s.data.toList.length = s.size := rfl
    have HB0 := hid ((((Below.refl w.heap.size w).alloc (Nat.le_refl _) (.cells #[] 49)).alloc (by simp) (.cells #[] 49)))
    have HN := hid (show toksF s.data.toList = none by unfold toksF; rw [if_neg (fun h => hbig (by rw [← hlen]; exact h.1))])
    have hd3 : decide ((4000 : Int) < (s.size : Int)) = true := decide_eq_true (by omega)
    have hm : s.size ≤ 9223372036854775807 := by unfold maxLen at hs; exact hs
    clear hs hlen
    go_enter Tryz.func68, Tryz.ntmps68
    go_wp2_with fail
    go_ret2
    exact tokPost_none HN.out rfl HB0.out

/-- What ReadTree tells. -/
def ReadPostS (s : ByteArray) (w : World) (e : Ending) (w' : World) : Prop :=
  ∃ a c us b, e = .returned (.tuple #[.slice a (us : List Tk).length c, .bool b]) ∧ TkRow w' a us ∧ Below w.heap.size w w' ∧ (toksF s.data.toList = none → b = false ∧ us = []) ∧ ∀ l, toksF s.data.toList = some l → b = (grownT l).isSome ∧ us = (grownT l).getD []

set_option maxHeartbeats 2000000 in
theorem cReadTreeS (s : ByteArray) (w : World) (hs : s.size ≤ maxLen) : Calls Tryz.prog 20 #[.string s] w (ReadPostS s w) := by
  have CT := hid (cTokensT s w hs)
  clear hs
  cases ht : toksF s.data.toList with
  | none =>
    have HT := hid ht
    clear ht
    go_enter Tryz.func20, Tryz.ntmps20
    go_wp2_with fail
    refine CT.out.mono ?_
    rintro e w1 ⟨h1, -, hb1⟩
    obtain ⟨a1, c1, rfl⟩ := h1 HT.out
    have HB1 := hid hb1
    clear h1 hb1 CT
    go_wp2_with fail
    go_ret2
    exact ⟨_, _, [], false, rfl, fun j hj => absurd hj (Nat.not_lt_zero _), HB1.out.alloc HB1.out.size _, fun _ => ⟨rfl, rfl⟩, fun l hl => by rw [HT.out] at hl; cases hl⟩
  | some l =>
    have HT := hid ht
    have hl : l.length ≤ 1048576 := by
      unfold toksF at ht
      split at ht
      · split at ht
        · cases ht
        · split at ht
          · rename_i q
            simp only [Option.some.injEq] at ht
            subst ht
            have := q.2
            omega
          · cases ht
      · cases ht
    clear ht
    have HL := hid hl
    clear hl
    go_enter Tryz.func20, Tryz.ntmps20
    go_wp2_with fail
    refine CT.out.mono ?_
    rintro e w1 ⟨-, h1, hb1⟩
    obtain ⟨a1, c1, rfl, hr1, hz1⟩ := h1 l HT.out
    have HB1 := hid hb1
    have CG := hid (cGrownS a1 c1 l w1 hr1 HL.out hz1)
    clear h1 hb1 CT hr1 hz1 HL
    generalize l.length = n at *
    go_wp2_with fail
    refine CG.out.mono ?_
    rintro e w2 ⟨a2, c2, rfl, hr2, hb2⟩
    have HR2 := hid hr2
    have HB2 := hid (bb HB1.out hb2)
    clear hr2 hb2 CG
    go_wp2_with fail
    go_ret2
    exact ⟨_, _, _, _, rfl, HR2.out, HB2.out, fun h => (by rw [HT.out] at h; cases h), fun m hm => by
      rw [HT.out] at hm
      simp only [Option.some.injEq] at hm
      subst hm
      exact ⟨rfl, rfl⟩⟩

end Go.Proofs.YteninofjeidljaaGreat

namespace Go.Proofs.YteninofjeidljaaGreat

open Go.RowKit

set_option linter.unusedVariables false

set_option linter.unusedSimpArgs false

/-- A text as it is escaped. -/
def escS (q : Bool) (s : ByteArray) : ByteArray := ⟨(escapedL q s.data.toList).toArray⟩

/-- An attr as it is shown. -/
def atS (x : At) : ByteArray := (((((⟨#[32]⟩ : ByteArray) ++ x.name) ++ ⟨#[61, 34]⟩) ++ escS true x.value) ++ ⟨#[34]⟩)

/-- Attrs as they are shown, behind what stands ahead. -/
def atsS : List At → ByteArray → ByteArray
  | [], s => s
  | x :: l, s => atsS l (s ++ atS x)

theorem atsS_snoc (l : List At) (x : At) (s : ByteArray) : atsS (l ++ [x]) s = atsS l s ++ atS x := by
  induction l generalizing s with
  | nil => rfl
  | cons y l ih => exact ih _

theorem escS_size (q : Bool) (s : ByteArray) : (escS q s).size ≤ 6 * s.size := by
  have e : (escS q s).size = (escapedL q s.data.toList).length := by unfold escS; simp [ByteArray.size]
  have e2 : s.size = s.data.toList.length := rfl
  rw [e, e2]
  unfold escapedL
  split
  · exact escL_le q _
  · simp

theorem atS_size (x : At) : (atS x).size ≤ 4 + x.name.size + 6 * x.value.size := by
  have h := escS_size true x.value
  have e1 : (⟨#[32]⟩ : ByteArray).size = 1 := rfl
  have e2 : (⟨#[61, 34]⟩ : ByteArray).size = 2 := rfl
  have e3 : (⟨#[34]⟩ : ByteArray).size = 1 := rfl
  unfold atS
  simp only [ByteArray.size_append, e1, e2, e3]
  omega

set_option maxHeartbeats 1000000 in
theorem cL7Attr (x : At) (w : World) (h1 : x.name.size ≤ 1048576) (h2 : x.value.size ≤ 1048576) :
    Calls Tryz.prog 128 #[.agg #[.string x.name, .string x.value]] w fun e w' => e = .returned (.string (atS x)) ∧ Below w.heap.size w w' := by
  have C := fun w => c_spec_Escaped x.value true w h2
  have hz := escS_size true x.value
  have e0 : atS x = (((((⟨#[32]⟩ : ByteArray) ++ x.name) ++ ⟨#[61, 34]⟩) ++ escS true x.value) ++ ⟨#[34]⟩) := rfl
  rw [e0]
  have e1 : (⟨(escapedL true x.value.data.toList).toArray⟩ : ByteArray) = escS true x.value := rfl
  rw [e1] at C
  obtain ⟨E, hE⟩ : ∃ E, escS true x.value = E := ⟨_, rfl⟩
  rw [hE] at C hz ⊢
  clear e0 e1 hE
  generalize x.name = n at *
  generalize x.value = v at *
  have HB0 := hid ((Below.refl w.heap.size w).alloc (Nat.le_refl _) (.cells #[.string n, .string v] 114))
  have M := hid (heap_alloc_new w (.cells #[.string n, .string v] 114))
  obtain ⟨W, hW⟩ : ∃ W, w.alloc (.cells #[.string n, .string v] 114) = W := ⟨_, rfl⟩
  rw [hW] at HB0 M
  have k1 : W.cell? ⟨w.heap.size, 0, none⟩ = some (.string n) := by rw [Lib.cell_of_heap M.out]; rfl
  have k2 : W.cell? ⟨w.heap.size, 0 + 1, none⟩ = some (.string v) := by rw [Lib.cell_of_heap M.out]; rfl
  obtain ⟨d1, d2⟩ := pair_bw (lt_of_heap M.out) k1 k2
  simp only [Nat.zero_add] at d2
  clear k1 k2
  have HNB := hid (bw_any W)
  go_enter Tryz.func128, Tryz.ntmps128
  go_wp2_with fail
  haveI := HNB.out
  refine wp_region_below (by kernel_rfl) (by kernel_rfl) (Below.refl W.heap.size W) ?_
  repeat (go_big_quiet_step ((go_at_call 124; exact calls_bw _ (C _))))
  refine wpQuiet_nil ?_
  intro _ hw'
  obtain ⟨⟨wq, hwq⟩, hw''⟩ := hw'
  subst hw''
  have HB2 := hid (bb HB0.out hwq)
  go_wp2_with fail
  go_ret
  exact ⟨rfl, HB2.out⟩

/-- A token as it is shown. -/
def showS (t : Tk) : ByteArray :=
  if t.kind = 2 then ((⟨#[60, 47]⟩ : ByteArray) ++ t.name) ++ ⟨#[62]⟩
  else if t.kind = 3 then escS false t.text
  else atsS t.attrs ((⟨#[60]⟩ : ByteArray) ++ t.name) ++ ⟨#[62]⟩

theorem atsS_size (l : List At) (s : ByteArray) (hz : AtSz 1048576 l) : (atsS l s).size ≤ s.size + l.length * 7340036 := by
  induction l generalizing s with
  | nil => simp [atsS]
  | cons x l ih =>
    have h1 := ih (s ++ atS x) (fun y hy => hz y (List.mem_cons_of_mem _ hy))
    have h2 := atS_size x
    have h3 := hz x List.mem_cons_self
    rw [ByteArray.size_append] at h1
    rw [List.length_cons]
    show (atsS l (s ++ atS x)).size ≤ _
    omega

set_option maxRecDepth 8000 in
set_option maxHeartbeats 2000000 in
theorem cL7Show (t : Tk) (a : Option Addr) (cap : Nat) (w : World) (hR : AtRow w a t.attrs) (hz : TkSz 1048576 t) (h6 : t.attrs.length ≤ 6) :
    Calls Tryz.prog 103 #[tkV t a cap] w fun e w' => e = .returned (.string (showS t)) ∧ Below w.heap.size w w' := by
  obtain ⟨k, name, l, text⟩ := t
  obtain ⟨h1, _, h3, h4⟩ := hz
  simp only at hR h1 h3 h4 h6
  have HB0 := hid ((Below.refl w.heap.size w).alloc (Nat.le_refl _) (.cells #[.int .i64 k, .string name, .slice a l.length cap, .string text] 49))
  have HR := hid (hR.below HB0.out)
  have M0 := hid (heap_alloc_new w (.cells #[.int .i64 k, .string name, .slice a l.length cap, .string text] 49))
  clear hR
  simp only [tkV]
  by_cases k2 : k = 2
  · subst k2
    rw [show showS ⟨2, name, l, text⟩ = ((⟨#[60, 47]⟩ : ByteArray) ++ name) ++ ⟨#[62]⟩ from rfl]
    clear h3
    generalize l.length = n at *
    go_enter Tryz.func103, Tryz.ntmps103
    go_wp2_with fail
    go_ret
    exact ⟨rfl, HB0.out⟩
  · have d2 : (k == 2) = false := by simpa using k2
    by_cases k3 : k = 3
    · subst k3
      rw [show showS ⟨3, name, l, text⟩ = escS false text from rfl]
      have C := fun w => c_spec_Escaped text false w h4
      have e1 : (⟨(escapedL false text.data.toList).toArray⟩ : ByteArray) = escS false text := rfl
      rw [e1] at C
      generalize escS false text = E at *
      clear h3 e1
      generalize l.length = n at *
      go_enter Tryz.func103, Tryz.ntmps103
      go_wp2_with fail
      refine (C _).mono ?_
      rintro e w1 ⟨rfl, hb1⟩
      have HB1 := hid (bb HB0.out hb1)
      go_wp2_with fail
      go_ret
      exact ⟨rfl, HB1.out⟩
    · have d3 : (k == 3) = false := by simpa using k3
      have e0 : showS ⟨k, name, l, text⟩ = atsS l ((⟨#[60]⟩ : ByteArray) ++ name) ++ ⟨#[62]⟩ := by unfold showS; simp [k2, k3]
      rw [e0]
      obtain ⟨V, hV⟩ : ∃ V, atsS l ((⟨#[60]⟩ : ByteArray) ++ name) ++ ⟨#[62]⟩ = V := ⟨_, rfl⟩
      have HV := hid hV
      rw [hV]
      have H3 := hid h3
      clear e0 hV h3 k2 k3
      obtain ⟨n, hn⟩ : ∃ n, l.length = n := ⟨_, rfl⟩
      have HN := hid hn
      rw [hn] at h6 HB0 HR M0 ⊢
      clear hn
      go_enter Tryz.func103, Tryz.ntmps103
      go_wp2_with fail
      go_loopw [3, 4] (fun v j wr => ∃ i : Nat, j = .int .i64 (i : Int) ∧ i ≤ n ∧ v = .string (atsS (l.take i) ((⟨#[60]⟩ : ByteArray) ++ name)) ∧ Hid (Below (w.heap.size + 1) (w.alloc (.cells #[.int .i64 k, .string name, .slice a n cap, .string text] 49)) wr)) (fun _ j _ => n - (intOf j).toNat)
      case atStart => exact ⟨0, rfl, Nat.zero_le _, rfl, Below.refl _ _⟩
      case round =>
        obtain ⟨i, rfl, hi, rfl, HB⟩ := hrel
        have HBx := hid (show Below (w.alloc (.cells #[.int .i64 k, .string name, .slice a n cap, .string text] 49)).heap.size (w.alloc (.cells #[.int .i64 k, .string name, .slice a n cap, .string text] 49)) wr by simpa using HB.out)
        obtain ⟨⟨x0, x1, x2, x3⟩, _⟩ := box4 (blk_below M0.out HBx.out)
        have HBw := hid (bb HB0.out HBx.out)
        have HZ := hid (atsS_size (l.take i) ((⟨#[60]⟩ : ByteArray) ++ name) (fun x hx => H3.out x (List.mem_of_mem_take hx)))
        have hz1 := HZ.out
        rw [ByteArray.size_append, show (⟨#[60]⟩ : ByteArray).size = 1 from rfl, List.length_take] at hz1
        have hz2 : (atsS (l.take i) ((⟨#[60]⟩ : ByteArray) ++ name)).size ≤ 60000000 := by omega
        clear hz1 HZ
        by_cases hlt : i < n
        · have his : i < l.length := by rw [HN.out]; exact hlt
          have hin : (i : Int) < (n : Int) := by omega
          obtain ⟨b, o, rfl, hb, c1, c2⟩ := (HR.out.below HBx.out) i his
          obtain ⟨z1, z2⟩ := H3.out _ (List.getElem_mem his)
          have C := fun w => cL7Attr l[i] w z1 z2
          have HS := hid (show atsS (l.take (i + 1)) ((⟨#[60]⟩ : ByteArray) ++ name) = atsS (l.take i) ((⟨#[60]⟩ : ByteArray) ++ name) ++ atS l[i] by rw [take_snocN his, atsS_snoc])
          have z3 := atS_size l[i]
          generalize atS l[i] = X at *
          generalize l[i].name = x at *
          generalize l[i].value = y at *
          generalize atsS (l.take i) ((⟨#[60]⟩ : ByteArray) ++ name) = cur at *
          go_wp2_with fail
          refine (C _).mono ?_
          rintro e w2 ⟨rfl, hb2⟩
          have HB2 := hid (HB.out.trans (hb2.mono (by have := HBx.out.size; simpa using this)))
          clear hb2 C c1 c2 x0 x1 x2 x3
          go_wp2_with fail
          go_roundw
          case rel => exact ⟨i + 1, by go_num, by omega, by rw [HS.out], HB2.out⟩
          case measure => simp [intOf]; omega
        · have hie : i = n := by omega
          subst hie
          have HW := hid (show atsS (l.take i) ((⟨#[60]⟩ : ByteArray) ++ name) ++ ⟨#[62]⟩ = V by rw [List.take_of_length_le (by rw [HN.out]; exact Nat.le_refl _)]; exact HV.out)
          generalize atsS (l.take i) ((⟨#[60]⟩ : ByteArray) ++ name) = cur at *
          go_wp2_with fail
          go_ret
          exact ⟨by rw [← HW.out]; rfl, HBw.out⟩

theorem tokB_len {t : Tk} (h : tokB t = true) : t.attrs.length ≤ 6 := by
  unfold tokB at h
  split at h
  · simp only [Bool.and_eq_true] at h
    have h2 := h.2.1
    by_cases k : AttrsOk t.attrs
    · exact k.1
    · rw [attrsB_f k] at h2
      cases h2
  · split at h
    · simp only [Bool.and_eq_true, decide_eq_true_eq] at h
      omega
    · split at h
      · simp only [Bool.and_eq_true, decide_eq_true_eq] at h
        omega
      · cases h

/-- What ShowToken answers. -/
noncomputable def shownT (t : Tk) : ByteArray := if tokB t = true then showS t else ⟨#[]⟩

end Go.Proofs.YteninofjeidljaaGreat
