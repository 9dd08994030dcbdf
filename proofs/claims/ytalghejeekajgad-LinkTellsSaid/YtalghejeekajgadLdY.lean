/- The three passes, object by object. -/
import Derived.Test.YtalghejeekajgadLdT
namespace Go.Proofs.Ytalghejeekajgad
open Go.RowKit Go.Maps Go.MapKept

theorem ent_wrong : ∀ args w, (callFunc 26 args).run Try.prog w = .ok (.enter 26 args) w := enters_of Try.func26 (by kernel_rfl) rfl
theorem ent_lay : ∀ args w, (callFunc 45 args).run Try.prog w = .ok (.enter 45 args) w := enters_of Try.func45 (by kernel_rfl) rfl
theorem ent_tell : ∀ args w, (callFunc 46 args).run Try.prog w = .ok (.enter 46 args) w := enters_of Try.func46 (by kernel_rfl) rfl

/-- The first pass: what is wrong. -/
theorem pass0_any (l : List Ob) (v : Value) (base : Int) (w : World) (hv : OObs w v l) (h0 : 0 ≤ base) (h1 : base ≤ 1048576) (hl : l.length ≤ 4) (hnl : ∀ o, o ∈ l → ∀ x, x ∈ o.syms → x.name.length ≤ maxLen) :
    Calls Try.prog 29 #[v, .int .i64 base, .func (.func 26) #[] #[]] w fun e W' => Below w.heap.size w W' ∧ ∃ x a, e = .returned (.agg #[.int .i64 x, .int .i64 a]) ∧ ((x = 0 ∧ a = 0 ∧ wrongAt nameR 0 l = none) ∨ (x ≠ 0 ∧ ∃ k : Nat, a = k ∧ wrongAt nameR 0 l = some (x, k))) := by
  refine (each_any l v base w w 26 #[] ent_wrong (fun k X => Below w.heap.size w X ∧ wrongAt nameR 0 l = wrongAt nameR k (l.drop k)) (fun k x => wrongAt nameR 0 l = some (x, k)) hv (by omega) (by omega) hl (fun k X h => h.1) (fun k X X' h hb => ⟨h.1.trans (hb.mono h.1.size), h.2⟩) (fun k X q c f h hq _ i x => ⟨h.1.setCell hq _, h.2⟩) ?_ ⟨Below.refl _ _, rfl⟩).mono ?_
  · intro k hk c s r X hX ho
    have e : (#[.agg #[c, s, r], .int .i64 (upW (endW base (l.take k)))] ++ #[] : Array Value) = #[.agg #[c, s, r], .int .i64 (upW (endW base (l.take k)))] := by simp
    rw [e]
    refine (wrongP_any l[k] c s r _ X (ho.below hX.1 (Nat.le_refl _)) (hnl _ (List.getElem_mem hk))).mono ?_
    rintro e X' ⟨rfl, hb⟩
    have hB : Below w.heap.size w X' := hX.1.trans (hb.mono hX.1.size)
    refine ⟨KeepT.of hb, hB, _, rfl, fun hz => ⟨hB, ?_⟩, fun hz => ?_⟩
    · rw [hX.2, wrongAt_at hk, if_pos hz]
    · show wrongAt nameR 0 l = _
      rw [hX.2, wrongAt_at hk, if_neg hz]
  · rintro e W' ⟨_, hB, x, a, rfl, h⟩
    refine ⟨hB, x, a, rfl, ?_⟩
    rcases h with ⟨hx, ha, _, hw⟩ | ⟨hx, k, hk, ha, hw⟩
    · refine .inl ⟨hx, ha, ?_⟩
      rw [hw, List.drop_eq_nil_of_le (Nat.le_refl _)]
      rfl
    · exact .inr ⟨hx, k, ha, hw⟩

theorem base_at {l : List Ob} {base : Int} (h0 : 0 ≤ base) (h1 : base ≤ 1048576) (hl : l.length ≤ 4) (hr : ∀ o, o ∈ l → wrongO nameR o = 0) (k : Nat) (hk : k < l.length) :
    upW (endW base (l.take k)) = up4 (endL base (l.take k)) ∧ base ≤ endL base (l.take k) ∧ endL base l ≤ 1048576 + 4 * 8003 ∧ endL base (l.take (k + 1)) ≤ endL base l ∧ endL base (l.take (k + 1)) = up4 (endL base (l.take k)) + l[k].code.length := by
  have hend : endL base l ≤ 1048576 + 4 * 8003 := by
    have := endL_le l base (fun o ho => (wrongO_few (hr o ho)).1)
    omega
  have hu := endL_upto l base k
  have hu2 := endL_upto l base (k + 1)
  have hg := endL_ge (l.take k) base
  obtain ⟨_, h3⟩ := basesW_eq (l.take k) base h0 (by omega)
  have hup := up4_le (endL base (l.take k))
  have ht := endL_take l base k hk
  refine ⟨?_, hg, hend, hu2, ht⟩
  rw [h3]
  unfold upW wrap64
  omega

/-- What is kept while objects are laid. -/
def I1 (w1 : World) (l : List Ob) (base : Int) (mb c1 c2 k : Nat) (X : World) : Prop :=
  ∃ b s bv sv D, LP w1 X base b s bv sv mb c1 c2 D ∧ (b.length : Int) = endL base (l.take k) - base ∧ s.length ≤ 255 * k ∧ layL base 0 [] [] (l.zip (basesL base l)) = layL base k b s ((l.zip (basesL base l)).drop k)

theorem pass1_any (l : List Ob) (v : Value) (base : Int) (mb c1 c2 : Nat) (w1 w : World) (hv : OObs w1 v l) (h0 : 0 ≤ base) (h1 : base ≤ 1048576) (hl : l.length ≤ 4) (hnl : ∀ o, o ∈ l → ∀ x, x ∈ o.syms → x.name.length ≤ maxLen) (hr : ∀ o, o ∈ l → wrongO nameR o = 0)
    (hI : I1 w1 l base mb c1 c2 0 w) :
    Calls Try.prog 29 #[v, .int .i64 base, .func (.func 45) #[] #[.pointer (some ⟨c1, 0, none⟩), .pointer (some ⟨c2, 0, none⟩)]] w fun e W' => KeepT w W' ∧ Below w1.heap.size w1 W' ∧ ∃ x a, e = .returned (.agg #[.int .i64 x, .int .i64 a]) ∧ ((x = 0 ∧ a = 0 ∧ I1 w1 l base mb c1 c2 l.length W') ∨ (x ≠ 0 ∧ ∃ k : Nat, a = k ∧ layL base 0 [] [] (l.zip (basesL base l)) = .error (x, k))) := by
  refine (each_any l v base w1 w 45 _ ent_lay (I1 w1 l base mb c1 c2) (fun k x => layL base 0 [] [] (l.zip (basesL base l)) = .error (x, k)) hv (by omega) (by omega) hl ?_ ?_ ?_ ?_ hI).mono ?_
  · rintro k X ⟨b, s, bv, sv, D, hp, _⟩
    exact hp.lo.bel
  · rintro k X X' ⟨b, s, bv, sv, D, hp, h⟩ hb
    exact ⟨b, s, bv, sv, D, hp.go hb, h⟩
  · rintro k X q c f ⟨b, s, bv, sv, D, hp, h⟩ hq hb i x
    exact ⟨b, s, bv, sv, D, hp.other hb hq (by decide) (by decide) (by decide) (by decide) (by decide) i x, h⟩
  · rintro k hk c s r X ⟨b, sy, bv, sv, D, hp, hbl, hsl, hE⟩ ho
    obtain ⟨hA, hA1, hA2, hA3, hA4⟩ := base_at h0 h1 hl hr k hk
    have hup := up4_le (endL base (l.take k))
    rw [hA]
    obtain ⟨z, hz⟩ : ∃ z : Nat, (z : Int) = up4 (endL base (l.take k)) - base - b.length := ⟨(up4 (endL base (l.take k)) - base - b.length).toNat, by omega⟩
    refine (lay_any l[k] c s r (up4 (endL base (l.take k))) base b sy bv sv mb c1 c2 z D w1 X hp ho (hr _ (List.getElem_mem hk)) (hnl _ (List.getElem_mem hk)) h0 (by omega) (by omega) (by omega)).mono ?_
    rintro e X' ⟨hk', hb', x, rfl, h⟩
    refine ⟨hk', hb', x, rfl, fun hx => ?_, fun hx => ?_⟩
    · rcases h with ⟨h, _⟩ | ⟨_, s', bv', sv', D', hlen, hadd, hp'⟩
      · omega
      · refine ⟨_, s', bv', sv', D', hp', ?_, ?_, ?_⟩
        · rw [hA4]; simp; omega
        · have := (wrongO_few (hr _ (List.getElem_mem hk))).2.1
          omega
        · rw [hE, layL_at hk, hadd, ← hz, Int.toNat_natCast]
    · rcases h with ⟨h, hadd⟩ | ⟨h, _⟩
      · subst h
        show layL _ _ _ _ _ = _
        rw [hE, layL_at hk, hadd]
      · exact absurd h hx
  · rintro e W' ⟨hk, hB, x, a, rfl, h⟩
    refine ⟨hk, hB, x, a, rfl, ?_⟩
    rcases h with h | ⟨hx, k, _, ha, hw⟩
    · exact .inl h
    · exact .inr ⟨hx, k, ha, hw⟩

/-- What is kept while relocs are put. -/
def I2 (w1 : World) (l : List Ob) (base : Int) (b : List UInt8) (s : List Sy) (bv sv : Value) (D : DataW Unit) (mb c1 c2 k : Nat) (X : World) : Prop :=
  ∃ c, LP w1 X base c s bv sv mb c1 c2 D ∧ c.length = b.length ∧ relL s base 0 b (l.zip (basesL base l)) = relL s base k c ((l.zip (basesL base l)).drop k)

theorem pass2_any (l : List Ob) (v : Value) (base : Int) (b : List UInt8) (s : List Sy) (bv sv : Value) (D : DataW Unit) (mb c1 c2 : Nat) (w1 w : World) (hv : OObs w1 v l) (h0 : 0 ≤ base) (h1 : base ≤ 1048576) (hl : l.length ≤ 4) (hr : ∀ o, o ∈ l → wrongO nameR o = 0) (hbl : (b.length : Int) = endL base l - base)
    (hI : I2 w1 l base b s bv sv D mb c1 c2 0 w) :
    Calls Try.prog 29 #[v, .int .i64 base, .func (.func 46) #[] #[.pointer (some ⟨c2, 0, none⟩), .pointer (some ⟨c1, 0, none⟩)]] w fun e W' => KeepT w W' ∧ Below w1.heap.size w1 W' ∧ ∃ x a, e = .returned (.agg #[.int .i64 x, .int .i64 a]) ∧ ((x = 0 ∧ a = 0 ∧ I2 w1 l base b s bv sv D mb c1 c2 l.length W') ∨ (x ≠ 0 ∧ ∃ k : Nat, a = k ∧ relL s base 0 b (l.zip (basesL base l)) = .error (x, k))) := by
  refine (each_any l v base w1 w 46 _ ent_tell (I2 w1 l base b s bv sv D mb c1 c2) (fun k x => relL s base 0 b (l.zip (basesL base l)) = .error (x, k)) hv (by omega) (by omega) hl ?_ ?_ ?_ ?_ hI).mono ?_
  · rintro k X ⟨c, hp, _⟩
    exact hp.lo.bel
  · rintro k X X' ⟨c, hp, h⟩ hb
    exact ⟨c, hp.go hb, h⟩
  · rintro k X q c f ⟨b, hp, h⟩ hq hb i x
    exact ⟨b, hp.other hb hq (by decide) (by decide) (by decide) (by decide) (by decide) i x, h⟩
  · rintro k hk cv y r X ⟨c, hp, hcl, hE⟩ ho
    obtain ⟨hA, hA1, hA2, hA3, hA4⟩ := base_at h0 h1 hl hr k hk
    have hup := up4_le (endL base (l.take k))
    rw [hA]
    refine (tell_any l[k] cv y r (up4 (endL base (l.take k))) base c s bv sv mb c1 c2 D w1 X hp ho (hr _ (List.getElem_mem hk)) h0 (by omega) (by omega) (by omega) (by omega)).mono ?_
    rintro e X' ⟨hk', hb', x, rfl, h⟩
    refine ⟨hk', hb', x, rfl, fun hx => ?_, fun hx => ?_⟩
    · rcases h with ⟨h, _⟩ | ⟨_, b', hlen, hadd, hp'⟩
      · exact absurd hx h
      · exact ⟨b', hp', hlen.trans hcl, by rw [hE, relL_at hk, hadd]⟩
    · rcases h with ⟨_, hadd⟩ | ⟨h, _⟩
      · show relL _ _ _ _ _ = _
        rw [hE, relL_at hk, hadd]
      · exact absurd h hx
  · rintro e W' ⟨hk, hB, x, a, rfl, h⟩
    refine ⟨hk, hB, x, a, rfl, ?_⟩
    rcases h with h | ⟨hx, k, _, ha, hw⟩
    · exact .inl h
    · exact .inr ⟨hx, k, ha, hw⟩

end Go.Proofs.Ytalghejeekajgad
