/- The contract of the document's Eval: the loop. -/
import Derived.Test.YtibenegbjpoclabDoorEvD
import Derived.Test.YtibenegbjpoclabDoorReC
namespace Go.Proofs.YtibenegbjpoclabDoor
open Go.RowKit

theorem comb_sgn {equs : List (List UInt8 × Int)} {k m : Int} {nm : List UInt8} {vs : List Va} {a : Va} (h : combR equs k m nm vs = .ok a) : sgn a.n = a.n := by
  unfold combR at h
  repeat' split at h
  all_goals first
    | (injection h with h; subst h; first | exact sgn_sgn _ | exact sgn_zero | exact (opR_sgn _ _ _).symm)
    | cases h
theorem evalR_sgn {equs : List (List UInt8 × Int)} : ∀ (e : Ex) {v : Va}, evalR equs e = .ok v → sgn v.n = v.n
  | .mk kind n nm kids, v, h => by
    rw [evalR] at h
    cases hk : evalL equs kids with
    | error y => rw [hk] at h; cases h
    | ok vs => rw [hk] at h; exact comb_sgn h

def vcells (vs : List Va) : List Value := vs.flatMap fun v => [.string ⟨v.name.toArray⟩, .int .i64 v.n]
theorem vcells_app (vs : List Va) (v : Va) : vcells (vs ++ [v]) = vcells vs ++ [.string ⟨v.name.toArray⟩, .int .i64 v.n] := by simp [vcells]

theorem new2 {w : World} {n : Nat} {t : TypeId} (h : w.heap.size = n) (a b : Value) : ∀ j u, [a, b][j]? = some u → (w.alloc (.cells #[a, b] t)).cell? ((⟨n, 0, none⟩ : Addr).add j) = some u := by
  intro j u hj
  match j, hj with
  | 0, hj => simp at hj; subst hj; exact cell_at h rfl
  | 1, hj => simp at hj; subst hj; exact cell_at h rfl
theorem one2 (a : ByteArray) (b : Int) : ∀ u ∈ [Value.string a, .int .i64 b], u.oneCell' = true := by
  intro u hu
  simp at hu
  rcases hu with rfl | rfl <;> rfl

/-- What the document's Eval keeps: E the expression, R the answer. -/
structure RvMem (w wr : World) (kind n : Int) (nm : List UInt8) (ad : Option Addr) (len cap : Nat) (v : Value) (done : List Va) : Prop where
  bel : Below w.heap.size w wr
  sz : w.heap.size + 2 ≤ wr.heap.size
  e : Var4 wr w.heap.size (.int .i64 kind) (.int .i64 n) (.string ⟨nm.toArray⟩) (.slice ad len cap)
  r : Var2 wr (w.heap.size + 1) (.string ⟨#[]⟩) (.int .i64 0)
  k : wr.ownsRow (w.heap.size + 2) 32 2 v done.length (vcells done)
  s : ∀ x, x ∈ done → sgn x.n = x.n

theorem RvMem.keep {w wr wr' : World} {kind n : Int} {nm : List UInt8} {ad : Option Addr} {len cap : Nat} {v : Value} {done : List Va} (h : RvMem w wr kind n nm ad len cap v done) (hb : Below wr.heap.size wr wr') : RvMem w wr' kind n nm ad len cap v done := by
  have := h.sz
  exact ⟨h.bel.trans (hb.mono (by omega)), Nat.le_trans h.sz hb.size, h.e.keep (hb.block _ (by omega)), h.r.keep (hb.block _ (by omega)), owns_belowT h.k hb, h.s⟩

theorem RvMem.app {w w1 w3 : World} {kind n : Int} {nm : List UInt8} {ad va : Option Addr} {len cap vc k : Nat} {v' : Value} {done : List Va} {x : Va} {o1 o2 : Obj} (h : RvMem w w1 kind n nm ad len cap (.slice va done.length vc) done)
    (hg : ((w1.alloc o1).alloc o2).grownBy w3 (Value.slice va k vc).ownBlock) (ho : w3.ownsRow (w.heap.size + 2) 32 2 v' (k + 1) (vcells done ++ [.string ⟨x.name.toArray⟩, .int .i64 x.n])) (hk : done.length = k) (hx : sgn x.n = x.n) : RvMem w w3 kind n nm ad len cap v' (done ++ [x]) := by
  subst hk
  have hsz := h.sz
  have hlow : ∀ b, b < w.heap.size + 2 → w3.heap[b]? = w1.heap[b]? := fun b hb => by
    rw [hg.block b (by simp; omega) (by
      intro e
      have := h.k.lt b e.symm
      omega), Below.heap_alloc _ _ _ (by simp; omega), Below.heap_alloc _ _ _ (by omega)]
  refine ⟨?_, by have := hg.size; simp at this; omega, h.e.keep (hlow _ (by omega)), h.r.keep (hlow _ (by omega)), ?_, fun y hy => ?_⟩
  · have hb := h.bel
    exact ⟨hg.os.trans hb.os, hg.tape.trans hb.tape, hg.output.trans hb.output, by have := hg.size; simp at this; omega, fun b hb2 => (hlow b (by omega)).trans (hb.block b hb2)⟩
  · rw [vcells_app, List.length_append]
    exact ho
  · rcases List.mem_append.1 hy with hy | hy
    · exact h.s y hy
    · simp at hy; subst hy; exact hx

theorem owns_cells {w : World} {base n : Nat} {e : TypeId} {size : Nat} {va : Option Addr} {vc : Nat} {xs : List Value} (h : w.ownsRow base e size (.slice va n vc) n xs) (hn : n ≠ 0) : ∃ g, va = some ⟨g, 0, none⟩ ∧ base ≤ g ∧ g < w.heap.size ∧ ∀ (j : Nat) u, xs[j]? = some u → w.cell? ⟨g, j, none⟩ = some u := by
  rcases h.2 with ⟨_, h0⟩ | ⟨g, cap, cur, e1, hg, hcur, hle, hm, hs, htk⟩
  · exact absurd h0 hn
  · injection e1 with e1 _ _
    refine ⟨g, e1, hg, (Array.getElem?_eq_some_iff.1 hcur).1, fun j u hj => ?_⟩
    have h1 : cur[j]? = some u := by
      rw [← htk, List.getElem?_take] at hj
      split at hj
      · rw [← Array.getElem?_toList]; exact hj
      · cases hj
    simp [World.cell?, hcur, h1]

theorem neg1_sgn (n : Int) : sgn (wrap64 (wrap64 (-n) - 1)) = sgn (-n - 1) := by unfold sgn wrap32 wrap64; omega

theorem w64_32 (x : Int) : wrap64 (wrap32 x) = wrap32 x := by unfold wrap64 wrap32; omega
theorem op5 (a b : Int) : opR 5 a b = wrap64 (wrap32 (a * b)) := by rw [w64_32]; rfl
theorem op6 (a b : Int) : opR 6 a b = wrap64 (wrap32 (a + b)) := by rw [w64_32]; rfl
theorem op7 (a b : Int) : opR 7 a b = wrap64 (wrap32 (a - b)) := by rw [w64_32]; rfl
theorem op8 (a b : Int) : opR 8 a b = wrap64 (wrap32 (a % 4294967296 * 2 ^ (b % 32).toNat % 4294967296)) := by
  have h : b % 4294967296 % 32 = b % 32 := by omega
  rw [w64_32]
  show wrap32 (a % 4294967296 * 2 ^ (b % 4294967296 % 32).toNat) = _
  rw [h]
  generalize a % 4294967296 * 2 ^ (b % 32).toNat = x
  unfold wrap32; omega
theorem op9 (a b : Int) : opR 9 a b = wrap64 (wrap32 (a % 4294967296 / 2 ^ (b % 32).toNat)) := by
  have h : b % 4294967296 % 32 = b % 32 := by omega
  rw [w64_32]
  show wrap32 (a % 4294967296 / 2 ^ (b % 4294967296 % 32).toNat) = _
  rw [h]
theorem op10 (a b : Int) : opR 10 a b = wrap64 (bits .and .i32 a b) := by
  show opR 10 a b = wrap64 (opR 10 a b)
  have h := opR_sgn 10 a b
  rw [h]
  exact (w64_32 _).symm
theorem op11 (a b : Int) : opR 11 a b = wrap64 (bits .or .i32 a b) := by
  show opR 11 a b = wrap64 (opR 11 a b)
  have h := opR_sgn 11 a b
  rw [h]
  exact (w64_32 _).symm

theorem rv_two {wr wx : World} {a b c d : Value} {t : TypeId} (h : ((wr.alloc (.cells #[a, b] t)).alloc (.cells #[c, d] t)).drew = wx) :
    Below wr.heap.size wr wx ∧ wr.heap.size + 1 < wx.heap.size ∧ wx.cell? ⟨wr.heap.size, 0, none⟩ = some a ∧ wx.cell? ⟨wr.heap.size, 1, none⟩ = some b ∧ wx.cell? ⟨wr.heap.size + 1, 0, none⟩ = some c ∧ wx.cell? ⟨wr.heap.size + 1, 1, none⟩ = some d := by
  subst h
  refine ⟨(((Below.refl _ _).alloc (Nat.le_refl _) _).alloc (by simp) _).drew, ?_, ?_, ?_, ?_, ?_⟩ <;> simp

theorem rv_next {w wr wx wy : World} {v : Value} {a b : Value} (HBW : Hid (Below w.heap.size w wr)) (HBX : Hid (Below wr.heap.size wr wx)) (hbw : w.heap.size ≤ wr.heap.size) (hby : Below wx.heap.size wx wy) (hR3 : w.heap.size + 1 < wx.heap.size) (hR5 : w.heap.size < wx.heap.size)
    (e0 : wx.cell? ⟨w.heap.size, 0, none⟩ = some v) (x0 : wx.cell? ⟨w.heap.size + 1, 0, none⟩ = some a) (x1 : wx.cell? ⟨w.heap.size + 1, 1, none⟩ = some b) (f0 : wx.frozen? ⟨w.heap.size + 1, 0, none⟩ = false) (f1 : wx.frozen? ⟨w.heap.size + 1, 1, none⟩ = false) :
    Hid (Below w.heap.size w wy) ∧ w.heap.size + 1 < wy.heap.size ∧ wy.cell? ⟨w.heap.size, 0, none⟩ = some v ∧ wy.cell? ⟨w.heap.size + 1, 0, none⟩ = some a ∧ wy.cell? ⟨w.heap.size + 1, 1, none⟩ = some b ∧ wy.frozen? ⟨w.heap.size + 1, 0, none⟩ = false ∧ wy.frozen? ⟨w.heap.size + 1, 1, none⟩ = false :=
  ⟨(HBW.out.trans (HBX.out.mono hbw)).trans (hby.mono (by omega)), Nat.lt_of_lt_of_le hR3 hby.size, (hby.cell (by exact hR5)).trans e0, (hby.cell (by exact hR3)).trans x0, (hby.cell (by exact hR3)).trans x1, (hby.frozen (by exact hR3)).trans f0, (hby.frozen (by exact hR3)).trans f1⟩

def REvalOK (w0 : World) (qv : Value) (equs : List (List UInt8 × Int)) (kv : Value) (ks : List Ex) : Prop := ∀ (kind n : Int) (nm : List UInt8) (w : World), Below w0.heap.size w0 w →
  Calls Tryd.prog 10 #[.agg #[.int .i64 kind, .int .i64 n, .string ⟨nm.toArray⟩, kv], qv] w fun e w' => e = .returned (evalV (evalR equs (.mk kind n nm ks))) ∧ Below w.heap.size w w'

set_option maxHeartbeats 8000000 in
set_option maxRecDepth 100000 in
theorem reval_loop (w0 : World) (p : Nat → Prop) (qv : Value) (equs : List (List UInt8 × Int)) (hQ : QReads w0 qv equs) (ad : Option Addr) (cap : Nat) (ks : List Ex) (vi : Nat → Value) (hm : ks.length ≤ 2513169434843)
    (hc : 0 < ks.length → ∃ b o, ad = some ⟨b, o, none⟩ ∧ p b ∧ b < w0.heap.size ∧ ∀ i (h : i < ks.length),
        w0.cell? ⟨b, o + i * 4, none⟩ = some (.int .i64 ks[i].kind) ∧ w0.cell? ⟨b, o + i * 4 + 1, none⟩ = some (.int .i64 ks[i].n) ∧ w0.cell? ⟨b, o + i * 4 + 2, none⟩ = some (.string ⟨ks[i].name.toArray⟩) ∧ w0.cell? ⟨b, o + i * 4 + 3, none⟩ = some (vi i))
    (hk : ∀ i (h : i < ks.length), KR w0 p (vi i) ks[i].kids) (ih : ∀ i (h : i < ks.length), REvalOK w0 qv equs (vi i) ks[i].kids) : REvalOK w0 qv equs (.slice ad ks.length cap) ks := by
  intro kind n nm w hB0
  have hz0 := hB0.size
  have HB0 : Hid (Below w0.heap.size w0 w) := hB0
  clear hB0
  obtain ⟨EV, hEV⟩ : ∃ EV, EV = evalV (evalR equs (.mk kind n nm ks)) := ⟨_, rfl⟩
  rw [← hEV]
  have HEV : Hid (EV = evalV (evalR equs (.mk kind n nm ks))) := hEV
  clear hEV
  obtain ⟨i0, hi, hi0, hi1, hi2⟩ := infoVa
  obtain ⟨qad, qcap, rfl⟩ : ∃ qad qcap, qv = .slice qad equs.length qcap := by obtain ⟨a, b, e, _⟩ := hQ; exact ⟨a, b, e⟩
  go_enter Tryd.func10, Tryd.ntmps10
  go_wp2
  go_loopw [6, 23] (fun v i wr => ∃ (k : Nat) (done : List Va), k ≤ ks.length ∧ i = .int .i64 k ∧ (∃ va vc, v = .slice va done.length vc) ∧ Hid (RvMem w wr kind n nm ad ks.length cap v done) ∧ Hid (EvAt equs ks k done)) (fun _ i _ => ks.length - (intOf i).toNat)
  case atStart =>
    refine ⟨0, [], Nat.zero_le _, rfl, ⟨_, _, rfl⟩, ⟨((Below.refl _ _).alloc (Nat.le_refl _) _).alloc (by simp) _, by simp, ?_, ?_, World.ownsRow_nil _ _ _ _, fun x hx => by simp at hx⟩, evAt_start _ _⟩
    · exact (var4_new w _ _ _ _ _).alloc (by simp) _
    · exact var2_of (new_at _ (by simp))
  case round =>
    obtain ⟨k, done, hkl, rfl, ⟨va, vc, rfl⟩, HM, HV⟩ := hrel
    have hbw := HM.out.bel.size
    have hdk : done.length = k := HV.out.1
    by_cases hlt : k < ks.length
    · have hk1 : (k : Int) < ks.length := by omega
      obtain ⟨b, o, rfl, _, hbl, hcs⟩ := hc (by omega)
      obtain ⟨c0, c1, c2, c3⟩ := hcs k hlt
      have hBr : Below w0.heap.size w0 wr := HB0.out.trans (HM.out.bel.mono hz0)
      rw [← hBr.cell (by exact hbl)] at c0 c1 c2 c3
      obtain ⟨ad2, cap2, hvi⟩ := (hk k hlt).shape
      have hcall := ih k hlt
      rw [hvi] at hcall c3
      have hbr : b < wr.heap.size := by omega
      have HBR : Hid (Below w0.heap.size w0 wr) := hBr
      clear hcs hvi hBr
      go_wp2_with fail
      have hcall2 := hcall ks[k].kind ks[k].n ks[k].name _ (HBR.out.trans ((Below.refl w0.heap.size wr).alloc (by omega) (.cells #[.int .i64 ks[k].kind, .int .i64 ks[k].n, .string ⟨ks[k].name.toArray⟩, .slice ad2 ks[k].kids.length cap2] 25)))
      refine hcall2.mono ?_
      rintro e w1 ⟨rfl, hb1⟩
      rw [← Ex.eta]
      have HM1 : Hid (RvMem w w1 kind n nm (some ⟨b, o, none⟩) ks.length cap (.slice va done.length vc) done) := (HM.out.keep ((Below.refl _ _).alloc (Nat.le_refl _) _)).keep hb1
      clear hcall hcall2 hb1 c0 c1 c2 c3
      cases hv : evalR equs ks[k] with
      | error x =>
        have hx := evalR_bad _ hv
        have hx1 : (x != 0) = true := by simpa using hx
        have HE : Hid (EV = .tuple #[.agg #[.string ⟨#[]⟩, .int .i64 0], .int .i64 x]) := by unfold Hid; rw [HEV.out, evalR, evAt_bad HV.out hlt hv]; rfl
        obtain ⟨⟨x0, x1⟩, f0, f1⟩ := HM1.out.r
        have hR1 := HM1.out.sz
        have hR2 : w.heap.size + 1 < w1.heap.size := by omega
        clear hv
        simp only [evalV]
        go_wp2
        exact bodyPost_ret (v := .tuple #[.agg #[.string ⟨#[]⟩, .int .i64 0], .int .i64 x]) (by simp [results, Tryd.results10, go_sem, x0, x1, World.cell?_alloc_lt, hR2]) rfl
          ⟨by rw [HE.out], (bput2 HM1.out.bel (Nat.le_succ _)).alloc (by simp; omega) _⟩
      | ok v =>
        have HV2 : Hid (EvAt equs ks (k + 1) (done ++ [v])) := evAt_ok HV.out hlt hv
        have HSG : Hid (sgn v.n = v.n) := evalR_sgn _ hv
        have hR1 := HM1.out.sz
        have hmx : done.length + 1 ≤ maxLen := by unfold maxLen; omega
        clear hv
        simp only [evalV, vaV]
        go_wp2_with (first
          | (at_builtin; refine wpList_append_own _ rfl _ _ 55 rfl (w.heap.size + 2) 32 i0 _ 2 24 Tryd.underlying55 hi hi0 hi1 hi2 rfl (by decide) _ _ _ rfl ((HM1.out.k.alloc _).alloc _) ⟨w1.heap.size + 1, 0, none⟩ 1 1 [.string ⟨v.name.toArray⟩, .int .i64 v.n] rfl rfl (new2 (by simp) _ _) (one2 _ _) hmx (by omega) (by simp; omega) ?_)
          | go_in)
        intro v' w3 hown3 hgrow _
        obtain ⟨va3, vc3, rfl⟩ := owns_shape hown3
        have HM3 : Hid (RvMem w w3 kind n nm (some ⟨b, o, none⟩) ks.length cap (.slice va3 (k + 1) vc3) (done ++ [v])) := HM1.out.app hgrow hown3 hdk HSG.out
        have hlen3 : (done ++ [v]).length = k + 1 := by simp [hdk]
        clear hown3 hgrow HM1
        go_wp2
        go_roundw
        case rel => exact ⟨k + 1, done ++ [v], by omega, by go_num, ⟨va3, vc3, by rw [hlen3]⟩, HM3, HV2⟩
        case measure => simp [intOf]; omega
    · have hk1 : ¬ (k : Int) < ks.length := by omega
      have hev := evAt_end HV.out (by omega)
      have hdl : done.length = ks.length := by omega
      have HE : Hid (EV = evalV (combR equs kind n nm done)) := by unfold Hid; rw [HEV.out, evalR, hev]
      have HQr : Hid (QReads wr (.slice qad equs.length qcap) equs) := hQ.below (HB0.out.trans (HM.out.bel.mono hz0)) (Nat.le_refl _)
      obtain ⟨⟨e0, e1, e2, e3⟩, _⟩ := HM.out.e
      have hR1 := HM.out.sz
      have hR0 : w.heap.size < wr.heap.size := by omega
      have hR2 : w.heap.size + 1 < wr.heap.size := by omega
      obtain ⟨⟨x0, x1⟩, f0, f1⟩ := HM.out.r
      clear hev hc hk ih hQ hdk
      rcases done with _ | ⟨a, _ | ⟨b, _ | ⟨c, r⟩⟩⟩
      · have hL : ks.length = 0 := by simpa using hdl.symm
        rw [hL] at e3
        simp only [hL, List.length_nil]
        clear hdl
        by_cases h1 : kind = 1
        · subst h1
          have HC : Hid (combR equs 1 n nm [] = .ok ⟨[], sgn n⟩) := comb_num
          go_wp2_with (go_at_call 14; refine (rsigned_any _ _).mono ?_; rintro e w' ⟨rfl, rfl⟩)
          exact bodyPost_ret (v := .tuple #[.agg #[.string ⟨#[]⟩, .int .i64 (sgn n)], .int .i64 0]) (by simp [results, Tryd.results10, go_sem, x0, x1]) rfl
            ⟨by rw [HE.out, HC.out]; rfl, bput2 HM.out.bel (Nat.le_succ _)⟩
        · have n1 : (kind == 1) = false := by simpa using h1
          by_cases h2 : kind = 2
          · subst h2
            have HC : Hid (combR equs 2 n nm [] = .ok (namedR nm equs)) := comb_name
            obtain ⟨_, _, _, hqm, hqc⟩ := HQr.out
            unfold maxLen at hqm
            go_wp2
            go_loopw [64] (fun i wj => ∃ j : Nat, j ≤ equs.length ∧ i = .int .i64 j ∧ Hid (Below wr.heap.size wr wj) ∧ Hid (lookE nm equs = lookE nm (equs.drop j))) (fun i _ => equs.length - (intOf i).toNat)
            case atStart => exact ⟨0, Nat.zero_le _, rfl, Below.refl _ _, rfl⟩
            case round =>
              obtain ⟨j, hj, rfl, HBj, HLj⟩ := hrel
              have HMj := HM.out.keep HBj.out
              obtain ⟨⟨_, _, e2j, _⟩, _⟩ := HMj.e
              obtain ⟨⟨x0, x1⟩, f0, f1⟩ := HMj.r
              have hRj := HMj.sz
              have hRj0 : w.heap.size < wr.heap.size := by omega
              have hRj1 : w.heap.size + 1 < wr.heap.size := by omega
              have HBf : Hid (Below w.heap.size w wr) := HMj.bel
              by_cases hjl : j < equs.length
              · have hj1 : (j : Int) < equs.length := by omega
                obtain ⟨b, o, hbo, hbl, hcell⟩ := hqc (by omega)
                subst hbo
                obtain ⟨c0, c1⟩ := hcell j hjl
                rw [← HBj.out.cell (by exact hbl)] at c0 c1
                have hbj : b < wr.heap.size := Nat.lt_of_lt_of_le hbl HBj.out.size
                have hd : equs.drop j = equs[j] :: equs.drop (j + 1) := List.drop_eq_getElem_cons hjl
                rw [hd, lookE] at HLj
                by_cases hq : equs[j].1 = nm
                · have eq1 : (equs[j].1 == nm) = true := by simpa using hq
                  rw [if_pos hq] at HLj
                  have HC2 : Hid (namedR nm equs = ⟨[], sgn equs[j].2⟩) := by unfold Hid namedR; rw [HLj.out]
                  clear hcell hqc hd hq HMj HLj
                  generalize equs[j].1 = qq at *
                  go_wp2_with (go_at_call 14; refine (rsigned_any _ _).mono ?_; rintro e w' ⟨rfl, rfl⟩)
                  exact bodyPost_ret (v := .tuple #[.agg #[.string ⟨#[]⟩, .int .i64 (sgn equs[j].2)], .int .i64 0]) (by simp [results, Tryd.results10, go_sem, x0, x1, World.cell?_alloc_lt, hRj1]) rfl
                    ⟨by rw [HE.out, HC.out, HC2.out]; rfl, (bput2 HBf.out (Nat.le_succ _)).alloc (by simp; omega) _⟩
                · have eq1 : (equs[j].1 == nm) = false := by simpa using hq
                  rw [if_neg hq] at HLj
                  clear hcell hqc hd hq HMj
                  generalize equs[j].1 = qq at *
                  go_wp2
                  exact ⟨⟨j + 1, by omega, by go_num, HBj.out.alloc HBj.out.size _, HLj⟩, by simp [intOf]; omega⟩
              · have hj1 : ¬ (j : Int) < equs.length := by omega
                have HC2 : Hid (namedR nm equs = ⟨nm, 0⟩) := by
                  have h := HLj.out
                  rw [List.drop_eq_nil_of_le (by omega)] at h
                  unfold Hid namedR
                  rw [h]
                  rfl
                clear hqc HMj HLj
                go_wp2
                exact bodyPost_ret (v := .tuple #[.agg #[.string ⟨nm.toArray⟩, .int .i64 0], .int .i64 0]) (by simp [results, Tryd.results10, go_sem, x0, x1]) rfl
                  ⟨by rw [HE.out, HC.out, HC2.out]; rfl, bput2 HBf.out (Nat.le_succ _)⟩
          · have n2 : (kind == 2) = false := by simpa using h2
            have HC : Hid (combR equs kind n nm [] = .error 1) := by unfold Hid combR; rw [if_neg (fun c => h1 c.1), if_neg (fun c => h2 c.1)]
            go_wp2
            exact bodyPost_ret (v := .tuple #[.agg #[.string ⟨#[]⟩, .int .i64 0], .int .i64 1]) (by simp [results, Tryd.results10, go_sem, x0, x1]) rfl
              ⟨by rw [HE.out, HC.out]; rfl, bput2 HM.out.bel (Nat.le_succ _)⟩
      · have hL : ks.length = 1 := by simpa using hdl.symm
        rw [hL] at e3
        obtain ⟨g, rfl, hgb, hgl, hgc⟩ := owns_cells HM.out.k (by simp)
        have y0 : wr.cell? ⟨g, 0, none⟩ = some (.string ⟨a.name.toArray⟩) := hgc 0 _ rfl
        have y1 : wr.cell? ⟨g, 1, none⟩ = some (.int .i64 a.n) := hgc 1 _ rfl
        simp only [hL, List.length_cons, List.length_nil]
        clear hdl hgc
        by_cases h34 : kind = 3 ∨ kind = 4
        · have HC : Hid (combR equs kind n nm [a] = if a.name = [] then .ok ⟨[], sgn (if kind = 4 then -a.n - 1 else -a.n)⟩ else .error 8) := comb_one h34
          by_cases hn : a.name = []
          · rw [if_pos hn] at HC
            rw [hn] at y0
            rcases h34 with rfl | rfl
            · rw [if_neg (by decide)] at HC
              go_wp2_with (go_at_call 14; refine (rsigned_any _ _).mono ?_; rintro e w' ⟨rfl, rfl⟩)
              exact bodyPost_ret (v := .tuple #[.agg #[.string ⟨#[]⟩, .int .i64 (sgn (wrap64 (-a.n)))], .int .i64 0]) (by simp [results, Tryd.results10, go_sem, x0, x1]) rfl
                ⟨by rw [HE.out, HC.out, neg_sgn]; rfl, bput2 HM.out.bel (Nat.le_succ _)⟩
            · rw [if_pos rfl] at HC
              go_wp2_with (go_at_call 14; refine (rsigned_any _ _).mono ?_; rintro e w' ⟨rfl, rfl⟩)
              exact bodyPost_ret (v := .tuple #[.agg #[.string ⟨#[]⟩, .int .i64 (sgn (wrap64 (wrap64 (-a.n) - 1)))], .int .i64 0]) (by simp [results, Tryd.results10, go_sem, x0, x1]) rfl
                ⟨by rw [HE.out, HC.out, neg1_sgn]; rfl, bput2 HM.out.bel (Nat.le_succ _)⟩
          · rw [if_neg hn] at HC
            have en : (a.name == []) = false := by simpa using hn
            clear hn
            rcases h34 with rfl | rfl
            all_goals
              go_wp2
              exact bodyPost_ret (v := .tuple #[.agg #[.string ⟨#[]⟩, .int .i64 0], .int .i64 8]) (by simp [results, Tryd.results10, go_sem, x0, x1]) rfl
                ⟨by rw [HE.out, HC.out]; rfl, bput2 HM.out.bel (Nat.le_succ _)⟩
        · have HC : Hid (combR equs kind n nm [a] = .error 1) := by unfold Hid combR; rw [if_neg (fun c => by cases c.2), if_neg (fun c => by cases c.2)]; simp only; rw [if_neg h34]
          have n3 : (kind == 3) = false := by simp; omega
          have n4 : (kind == 4) = false := by simp; omega
          clear h34
          go_wp2
          all_goals
            exact bodyPost_ret (v := .tuple #[.agg #[.string ⟨#[]⟩, .int .i64 0], .int .i64 1]) (by simp [results, Tryd.results10, go_sem, x0, x1]) rfl
              ⟨by rw [HE.out, HC.out]; rfl, bput2 HM.out.bel (Nat.le_succ _)⟩
      · have hL : ks.length = 2 := by simpa using hdl.symm
        rw [hL] at e3
        obtain ⟨g, rfl, hgb, hgl, hgc⟩ := owns_cells HM.out.k (by simp)
        have y0 : wr.cell? ⟨g, 0, none⟩ = some (.string ⟨a.name.toArray⟩) := hgc 0 _ rfl
        have y1 : wr.cell? ⟨g, 1, none⟩ = some (.int .i64 a.n) := hgc 1 _ rfl
        have y2 : wr.cell? ⟨g, 2, none⟩ = some (.string ⟨b.name.toArray⟩) := hgc 2 _ rfl
        have y3 : wr.cell? ⟨g, 3, none⟩ = some (.int .i64 b.n) := hgc 3 _ rfl
        have sa : wrap32 a.n = a.n := HM.out.s a (by simp)
        have sb : wrap32 b.n = b.n := HM.out.s b (by simp)
        rw [hL] at hk1
        simp only [hL, List.length_cons, List.length_nil]
        clear hdl hgc hL
        by_cases h5 : kind < 5
        · have HC : Hid (combR equs kind n nm [a, b] = .error 1) := by unfold Hid combR; rw [if_neg (fun c => by cases c.2), if_neg (fun c => by cases c.2)]; simp only; rw [if_neg (by omega)]
          go_wp2
          all_goals
            exact bodyPost_ret (v := .tuple #[.agg #[.string ⟨#[]⟩, .int .i64 0], .int .i64 1]) (by simp [results, Tryd.results10, go_sem, x0, x1]) rfl
              ⟨by rw [HE.out, HC.out]; rfl, bput2 HM.out.bel (Nat.le_succ _)⟩
        by_cases h11 : 11 < kind
        · have HC : Hid (combR equs kind n nm [a, b] = .error 1) := by unfold Hid combR; rw [if_neg (fun c => by cases c.2), if_neg (fun c => by cases c.2)]; simp only; rw [if_neg (by omega)]
          go_wp2
          all_goals
            exact bodyPost_ret (v := .tuple #[.agg #[.string ⟨#[]⟩, .int .i64 0], .int .i64 1]) (by simp [results, Tryd.results10, go_sem, x0, x1]) rfl
              ⟨by rw [HE.out, HC.out]; rfl, bput2 HM.out.bel (Nat.le_succ _)⟩
        have hC := comb_two (equs := equs) (n := n) (nm := nm) (a := a) (b := b) (kind := kind) (by omega) (by omega)
        obtain ⟨an, av⟩ := a
        obtain ⟨bn, bv⟩ := b
        simp only at hC y0 y1 y2 y3 sa sb
        have HBW : Hid (Below w.heap.size w wr) := HM.out.bel
        clear HV HM
        have q0 : ∀ O : Obj, (wr.alloc O).cell? ⟨g, 0, none⟩ = some (.string ⟨an.toArray⟩) := fun O => by rw [World.cell?_alloc_lt _ _ _ (by exact hgl)]; exact y0
        have q1 : ∀ O : Obj, (wr.alloc O).cell? ⟨g, 1, none⟩ = some (.int .i64 av) := fun O => by rw [World.cell?_alloc_lt _ _ _ (by exact hgl)]; exact y1
        have q2 : ∀ O : Obj, (wr.alloc O).cell? ⟨g, 2, none⟩ = some (.string ⟨bn.toArray⟩) := fun O => by rw [World.cell?_alloc_lt _ _ _ (by exact hgl)]; exact y2
        have q3 : ∀ O : Obj, (wr.alloc O).cell? ⟨g, 3, none⟩ = some (.int .i64 bv) := fun O => by rw [World.cell?_alloc_lt _ _ _ (by exact hgl)]; exact y3
        have r0 : ∀ O O' : Obj, ((wr.alloc O).alloc O').cell? ⟨g, 0, none⟩ = some (.string ⟨an.toArray⟩) := fun O O' => by rw [World.cell?_alloc_lt _ _ _ (show g < _ by simp; omega)]; exact q0 O
        have r1 : ∀ O O' : Obj, ((wr.alloc O).alloc O').cell? ⟨g, 1, none⟩ = some (.int .i64 av) := fun O O' => by rw [World.cell?_alloc_lt _ _ _ (show g < _ by simp; omega)]; exact q1 O
        have r2 : ∀ O O' : Obj, ((wr.alloc O).alloc O').cell? ⟨g, 2, none⟩ = some (.string ⟨bn.toArray⟩) := fun O O' => by rw [World.cell?_alloc_lt _ _ _ (show g < _ by simp; omega)]; exact q2 O
        have r3 : ∀ O O' : Obj, ((wr.alloc O).alloc O').cell? ⟨g, 3, none⟩ = some (.int .i64 bv) := fun O O' => by rw [World.cell?_alloc_lt _ _ _ (show g < _ by simp; omega)]; exact q3 O
        have n1 : (kind == 1) = false := by simp; omega
        have n2 : (kind == 2) = false := by simp; omega
        go_wp2
        go_region
        all_goals
          generalize hwx : World.drew _ = wx
          obtain ⟨hbx, hsx, c0, c1, d0, d1⟩ := rv_two hwx
          have HBX : Hid (Below wr.heap.size wr wx) := hbx
          have e0 : wx.cell? ⟨w.heap.size, 0, none⟩ = _ := (hbx.cell (by exact hR0)).trans e0
          have x0 : wx.cell? ⟨w.heap.size + 1, 0, none⟩ = _ := (hbx.cell (by exact hR2)).trans x0
          have x1 : wx.cell? ⟨w.heap.size + 1, 1, none⟩ = _ := (hbx.cell (by exact hR2)).trans x1
          have f0 : wx.frozen? ⟨w.heap.size + 1, 0, none⟩ = _ := (hbx.frozen (by exact hR2)).trans f0
          have f1 : wx.frozen? ⟨w.heap.size + 1, 1, none⟩ = _ := (hbx.frozen (by exact hR2)).trans f1
          have hR3 : w.heap.size + 1 < wx.heap.size := Nat.lt_of_lt_of_le hR2 hbx.size
          have hR5 : w.heap.size < wx.heap.size := Nat.lt_of_lt_of_le hR0 hbx.size
          clear hwx hbx q0 q1 q2 q3 r0 r1 r2 r3 y0 y1 y2 y3
          by_cases ha : an = []
          · subst ha
            by_cases hb : bn = []
            · subst hb
              have HC : Hid (combR equs kind n nm [⟨[], av⟩, ⟨[], bv⟩] = .ok ⟨[], opR kind av bv⟩) := by unfold Hid; rw [hC, placeR, if_pos ⟨rfl, rfl⟩]
              clear hC
              obtain rfl | rfl | rfl | rfl | rfl | rfl | rfl : kind = 5 ∨ kind = 6 ∨ kind = 7 ∨ kind = 8 ∨ kind = 9 ∨ kind = 10 ∨ kind = 11 := by omega
              · have ho := op5 av bv
                go_wp2
                go_quiet (fail)
                generalize hwy : World.drewN _ _ = wy
                have hby : Below wx.heap.size wx wy := by subst hwy; exact Go.Joins.below_draws _ _ _
                obtain ⟨HBY, hR4, e0y, y0y, y1y, g0y, g1y⟩ := rv_next HBW HBX hbw hby hR3 hR5 e0 x0 x1 f0 f1
                clear hwy hby
                go_wp2
                exact bodyPost_ret (v := .tuple #[.agg #[.string ⟨(([] : List UInt8)).toArray⟩, .int .i64 (opR 5 av bv)], .int .i64 0]) (by simp [results, Tryd.results10, go_sem, y0y, y1y, ho]) rfl
                  ⟨by rw [HE.out, HC.out]; rfl, bput2 HBY.out (Nat.le_succ _)⟩
              · have ho := op6 av bv
                go_wp2
                go_quiet (fail)
                generalize hwy : World.drewN _ _ = wy
                have hby : Below wx.heap.size wx wy := by subst hwy; exact Go.Joins.below_draws _ _ _
                obtain ⟨HBY, hR4, e0y, y0y, y1y, g0y, g1y⟩ := rv_next HBW HBX hbw hby hR3 hR5 e0 x0 x1 f0 f1
                clear hwy hby
                go_wp2
                exact bodyPost_ret (v := .tuple #[.agg #[.string ⟨(([] : List UInt8)).toArray⟩, .int .i64 (opR 6 av bv)], .int .i64 0]) (by simp [results, Tryd.results10, go_sem, y0y, y1y, ho]) rfl
                  ⟨by rw [HE.out, HC.out]; rfl, bput2 HBY.out (Nat.le_succ _)⟩
              · have ho := op7 av bv
                go_wp2
                go_quiet (fail)
                generalize hwy : World.drewN _ _ = wy
                have hby : Below wx.heap.size wx wy := by subst hwy; exact Go.Joins.below_draws _ _ _
                obtain ⟨HBY, hR4, e0y, y0y, y1y, g0y, g1y⟩ := rv_next HBW HBX hbw hby hR3 hR5 e0 x0 x1 f0 f1
                clear hwy hby
                go_wp2
                exact bodyPost_ret (v := .tuple #[.agg #[.string ⟨(([] : List UInt8)).toArray⟩, .int .i64 (opR 7 av bv)], .int .i64 0]) (by simp [results, Tryd.results10, go_sem, y0y, y1y, ho]) rfl
                  ⟨by rw [HE.out, HC.out]; rfl, bput2 HBY.out (Nat.le_succ _)⟩
              · have ho := op8 av bv
                go_wp2
                go_quiet (fail)
                generalize hwy : World.drewN _ _ = wy
                have hby : Below wx.heap.size wx wy := by subst hwy; exact Go.Joins.below_draws _ _ _
                obtain ⟨HBY, hR4, e0y, y0y, y1y, g0y, g1y⟩ := rv_next HBW HBX hbw hby hR3 hR5 e0 x0 x1 f0 f1
                clear hwy hby
                go_wp2
                exact bodyPost_ret (v := .tuple #[.agg #[.string ⟨(([] : List UInt8)).toArray⟩, .int .i64 (opR 8 av bv)], .int .i64 0]) (by simp [results, Tryd.results10, go_sem, y0y, y1y, ho]) rfl
                  ⟨by rw [HE.out, HC.out]; rfl, bput2 HBY.out (Nat.le_succ _)⟩
              · have ho := op9 av bv
                go_wp2
                go_quiet (fail)
                generalize hwy : World.drewN _ _ = wy
                have hby : Below wx.heap.size wx wy := by subst hwy; exact Go.Joins.below_draws _ _ _
                obtain ⟨HBY, hR4, e0y, y0y, y1y, g0y, g1y⟩ := rv_next HBW HBX hbw hby hR3 hR5 e0 x0 x1 f0 f1
                clear hwy hby
                go_wp2
                exact bodyPost_ret (v := .tuple #[.agg #[.string ⟨(([] : List UInt8)).toArray⟩, .int .i64 (opR 9 av bv)], .int .i64 0]) (by simp [results, Tryd.results10, go_sem, y0y, y1y, ho]) rfl
                  ⟨by rw [HE.out, HC.out]; rfl, bput2 HBY.out (Nat.le_succ _)⟩
              · have ho := op10 av bv
                go_wp2
                go_quiet (fail)
                generalize hwy : World.drewN _ _ = wy
                have hby : Below wx.heap.size wx wy := by subst hwy; exact Go.Joins.below_draws _ _ _
                obtain ⟨HBY, hR4, e0y, y0y, y1y, g0y, g1y⟩ := rv_next HBW HBX hbw hby hR3 hR5 e0 x0 x1 f0 f1
                clear hwy hby
                go_wp2
                exact bodyPost_ret (v := .tuple #[.agg #[.string ⟨(([] : List UInt8)).toArray⟩, .int .i64 (opR 10 av bv)], .int .i64 0]) (by simp [results, Tryd.results10, go_sem, y0y, y1y, ho]) rfl
                  ⟨by rw [HE.out, HC.out]; rfl, bput2 HBY.out (Nat.le_succ _)⟩
              · have ho := op11 av bv
                go_wp2
                go_quiet (fail)
                generalize hwy : World.drewN _ _ = wy
                have hby : Below wx.heap.size wx wy := by subst hwy; exact Go.Joins.below_draws _ _ _
                obtain ⟨HBY, hR4, e0y, y0y, y1y, g0y, g1y⟩ := rv_next HBW HBX hbw hby hR3 hR5 e0 x0 x1 f0 f1
                clear hwy hby
                go_wp2
                exact bodyPost_ret (v := .tuple #[.agg #[.string ⟨(([] : List UInt8)).toArray⟩, .int .i64 (opR 11 av bv)], .int .i64 0]) (by simp [results, Tryd.results10, go_sem, y0y, y1y, ho]) rfl
                  ⟨by rw [HE.out, HC.out]; rfl, bput2 HBY.out (Nat.le_succ _)⟩
            · have eb : (bn == []) = false := by simpa using hb
              have eb2 : (([] : List UInt8) == bn) = false := by
                cases bn with
                | nil => exact absurd rfl hb
                | cons _ _ => rfl
              by_cases h6 : kind = 6
              · subst h6
                have HC : Hid (combR equs 6 n nm [⟨[], av⟩, ⟨bn, bv⟩] = .ok ⟨bn, opR 6 av bv⟩) := by unfold Hid; rw [hC, placeR, if_neg (fun c => hb c.2), if_neg (fun c => hb c.2.symm), if_neg (fun c => hb c.2), if_pos ⟨rfl, rfl⟩]
                clear hC hb
                have ho := op6 av bv
                go_wp2
                go_quiet (fail)
                generalize hwy : World.drewN _ _ = wy
                have hby : Below wx.heap.size wx wy := by subst hwy; exact Go.Joins.below_draws _ _ _
                obtain ⟨HBY, hR4, e0y, y0y, y1y, g0y, g1y⟩ := rv_next HBW HBX hbw hby hR3 hR5 e0 x0 x1 f0 f1
                clear hwy hby
                go_wp2
                exact bodyPost_ret (v := .tuple #[.agg #[.string ⟨(bn).toArray⟩, .int .i64 (opR 6 av bv)], .int .i64 0]) (by simp [results, Tryd.results10, go_sem, y0y, y1y, ho]) rfl
                  ⟨by rw [HE.out, HC.out]; rfl, bput2 HBY.out (Nat.le_succ _)⟩
              · have n6 : (kind == 6) = false := by simpa using h6
                have HC : Hid (combR equs kind n nm [⟨[], av⟩, ⟨bn, bv⟩] = .error 8) := by unfold Hid; rw [hC, placeR, if_neg (fun c => hb c.2), if_neg (fun c => hb c.2.symm), if_neg (fun c => hb c.2), if_neg (fun c => h6 c.1), if_neg (fun c => h6 c.1)]
                clear hC hb h6
                by_cases h7 : kind = 7
                · subst h7
                  go_wp2
                  exact bodyPost_ret (v := .tuple #[.agg #[.string ⟨#[]⟩, .int .i64 0], .int .i64 8]) (by simp [results, Tryd.results10, go_sem, x0, x1]) rfl
                    ⟨by rw [HE.out, HC.out]; rfl, bput2 (HBW.out.trans (HBX.out.mono hbw)) (Nat.le_succ _)⟩
                · have n7 : (kind == 7) = false := by simpa using h7
                  clear h7
                  go_wp2
                  exact bodyPost_ret (v := .tuple #[.agg #[.string ⟨#[]⟩, .int .i64 0], .int .i64 8]) (by simp [results, Tryd.results10, go_sem, x0, x1]) rfl
                    ⟨by rw [HE.out, HC.out]; rfl, bput2 (HBW.out.trans (HBX.out.mono hbw)) (Nat.le_succ _)⟩
          · have ea : (an == []) = false := by simpa using ha
            by_cases hb : bn = []
            · subst hb
              by_cases h7 : kind = 7
              · subst h7
                have HC : Hid (combR equs 7 n nm [⟨an, av⟩, ⟨[], bv⟩] = .ok ⟨an, opR 7 av bv⟩) := by unfold Hid; rw [hC, placeR, if_neg (fun c => ha c.1), if_neg (fun c => ha c.2), if_pos ⟨rfl, rfl⟩]
                clear hC ha
                have ho := op7 av bv
                go_wp2
                go_quiet (fail)
                generalize hwy : World.drewN _ _ = wy
                have hby : Below wx.heap.size wx wy := by subst hwy; exact Go.Joins.below_draws _ _ _
                obtain ⟨HBY, hR4, e0y, y0y, y1y, g0y, g1y⟩ := rv_next HBW HBX hbw hby hR3 hR5 e0 x0 x1 f0 f1
                clear hwy hby
                go_wp2
                exact bodyPost_ret (v := .tuple #[.agg #[.string ⟨(an).toArray⟩, .int .i64 (opR 7 av bv)], .int .i64 0]) (by simp [results, Tryd.results10, go_sem, y0y, y1y, ho]) rfl
                  ⟨by rw [HE.out, HC.out]; rfl, bput2 HBY.out (Nat.le_succ _)⟩
              · have n7 : (kind == 7) = false := by simpa using h7
                by_cases h6 : kind = 6
                · subst h6
                  have HC : Hid (combR equs 6 n nm [⟨an, av⟩, ⟨[], bv⟩] = .ok ⟨an, opR 6 av bv⟩) := by unfold Hid; rw [hC, placeR, if_neg (fun c => ha c.1), if_neg (fun c => ha c.2), if_neg (fun c => h7 c.1), if_neg (fun c => ha c.2), if_pos ⟨rfl, rfl⟩]
                  clear hC ha h7
                  have ho := op6 av bv
                  go_wp2
                  go_quiet (fail)
                  generalize hwy : World.drewN _ _ = wy
                  have hby : Below wx.heap.size wx wy := by subst hwy; exact Go.Joins.below_draws _ _ _
                  obtain ⟨HBY, hR4, e0y, y0y, y1y, g0y, g1y⟩ := rv_next HBW HBX hbw hby hR3 hR5 e0 x0 x1 f0 f1
                  clear hwy hby
                  go_wp2
                  exact bodyPost_ret (v := .tuple #[.agg #[.string ⟨(an).toArray⟩, .int .i64 (opR 6 av bv)], .int .i64 0]) (by simp [results, Tryd.results10, go_sem, y0y, y1y, ho]) rfl
                    ⟨by rw [HE.out, HC.out]; rfl, bput2 HBY.out (Nat.le_succ _)⟩
                · have n6 : (kind == 6) = false := by simpa using h6
                  have HC : Hid (combR equs kind n nm [⟨an, av⟩, ⟨[], bv⟩] = .error 8) := by unfold Hid; rw [hC, placeR, if_neg (fun c => ha c.1), if_neg (fun c => ha c.2), if_neg (fun c => h7 c.1), if_neg (fun c => ha c.2), if_neg (fun c => h6 c.1)]
                  clear hC ha h6 h7
                  go_wp2
                  exact bodyPost_ret (v := .tuple #[.agg #[.string ⟨#[]⟩, .int .i64 0], .int .i64 8]) (by simp [results, Tryd.results10, go_sem, x0, x1]) rfl
                    ⟨by rw [HE.out, HC.out]; rfl, bput2 (HBW.out.trans (HBX.out.mono hbw)) (Nat.le_succ _)⟩
            · have eb : (bn == []) = false := by simpa using hb
              by_cases h7 : kind = 7
              · subst h7
                by_cases hab : an = bn
                · subst hab
                  have HC : Hid (combR equs 7 n nm [⟨an, av⟩, ⟨an, bv⟩] = .ok ⟨[], opR 7 av bv⟩) := by unfold Hid; rw [hC, placeR, if_neg (fun c => ha c.1), if_pos ⟨rfl, rfl⟩]
                  clear hC ha hb
                  have ho := op7 av bv
                  go_wp2
                  go_quiet (fail)
                  generalize hwy : World.drewN _ _ = wy
                  have hby : Below wx.heap.size wx wy := by subst hwy; exact Go.Joins.below_draws _ _ _
                  obtain ⟨HBY, hR4, e0y, y0y, y1y, g0y, g1y⟩ := rv_next HBW HBX hbw hby hR3 hR5 e0 x0 x1 f0 f1
                  clear hwy hby
                  go_wp2
                  exact bodyPost_ret (v := .tuple #[.agg #[.string ⟨(([] : List UInt8)).toArray⟩, .int .i64 (opR 7 av bv)], .int .i64 0]) (by simp [results, Tryd.results10, go_sem, y0y, y1y, ho]) rfl
                    ⟨by rw [HE.out, HC.out]; rfl, bput2 HBY.out (Nat.le_succ _)⟩
                · have eab : (an == bn) = false := by simpa using hab
                  have HC : Hid (combR equs 7 n nm [⟨an, av⟩, ⟨bn, bv⟩] = .error 8) := by unfold Hid; rw [hC, placeR, if_neg (fun c => ha c.1), if_neg (fun c => hab c.2), if_neg (fun c => hb c.2), if_neg (fun c => ha c.2), if_neg (fun c => hb c.2)]
                  clear hC ha hb hab
                  go_wp2
                  exact bodyPost_ret (v := .tuple #[.agg #[.string ⟨#[]⟩, .int .i64 0], .int .i64 8]) (by simp [results, Tryd.results10, go_sem, x0, x1]) rfl
                    ⟨by rw [HE.out, HC.out]; rfl, bput2 (HBW.out.trans (HBX.out.mono hbw)) (Nat.le_succ _)⟩
              · have n7 : (kind == 7) = false := by simpa using h7
                have HC : Hid (combR equs kind n nm [⟨an, av⟩, ⟨bn, bv⟩] = .error 8) := by unfold Hid; rw [hC, placeR, if_neg (fun c => ha c.1), if_neg (fun c => h7 c.1), if_neg (fun c => hb c.2), if_neg (fun c => ha c.2), if_neg (fun c => hb c.2)]
                clear hC ha hb h7
                by_cases h6 : kind = 6
                · subst h6
                  go_wp2
                  exact bodyPost_ret (v := .tuple #[.agg #[.string ⟨#[]⟩, .int .i64 0], .int .i64 8]) (by simp [results, Tryd.results10, go_sem, x0, x1]) rfl
                    ⟨by rw [HE.out, HC.out]; rfl, bput2 (HBW.out.trans (HBX.out.mono hbw)) (Nat.le_succ _)⟩
                · have n6 : (kind == 6) = false := by simpa using h6
                  clear h6
                  go_wp2
                  exact bodyPost_ret (v := .tuple #[.agg #[.string ⟨#[]⟩, .int .i64 0], .int .i64 8]) (by simp [results, Tryd.results10, go_sem, x0, x1]) rfl
                    ⟨by rw [HE.out, HC.out]; rfl, bput2 (HBW.out.trans (HBX.out.mono hbw)) (Nat.le_succ _)⟩
      · have hL : ks.length = r.length + 3 := by simpa using hdl.symm
        rw [hL] at e3
        have HC : Hid (combR equs kind n nm (a :: b :: c :: r) = .error 1) := by
          unfold Hid combR
          rw [if_neg (fun c => by cases c.2), if_neg (fun c => by cases c.2)]
        have l0 : (((r.length + 3 : Nat) : Int) == 0) = false := by simp; omega
        have l1 : (((r.length + 3 : Nat) : Int) == 1) = false := by simp; omega
        have l2 : (((r.length + 3 : Nat) : Int) != 2) = true := by simp; omega
        have hle : (a :: b :: c :: r).length = r.length + 3 := rfl
        rw [hle]
        rw [hL] at hk1
        simp only [hL]
        clear hdl hL hle
        generalize r.length + 3 = L at *
        go_wp2
        all_goals
          exact bodyPost_ret (v := .tuple #[.agg #[.string ⟨#[]⟩, .int .i64 0], .int .i64 1]) (by simp [results, Tryd.results10, go_sem, x0, x1]) rfl
            ⟨by rw [HE.out, HC.out]; rfl, bput2 HM.out.bel (Nat.le_succ _)⟩

end Go.Proofs.YtibenegbjpoclabDoor
