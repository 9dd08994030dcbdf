import Derived.Test.YtfmljailbebfgaaGreatDoorPut47
namespace Go.Proofs.YtfmljailbebfgaaGreatDoor
open Go.RowKit
def qz : List UInt8 := [97, 103, 97, 105, 110]
def qKB : List UInt8 := [109, 111, 118, 32, 35, 48, 44, 114, 48]
def mov0T : List Sc.Tok := [⟨1, 0, [109, 111, 118]⟩, ⟨3, 0, [35]⟩, ⟨2, 0, []⟩, ⟨3, 0, [44]⟩, ⟨1, 0, [114, 48]⟩]
def qLM (n : Nat) : List UInt8 := [109, 111, 118, 32, 35] ++ (Lib.itoa n ++ [44, 114, 49])
def movTT (n : Nat) : List Sc.Tok := [⟨1, 0, [109, 111, 118]⟩, ⟨3, 0, [35]⟩, ⟨2, n, []⟩, ⟨3, 0, [44]⟩, ⟨1, 0, [114, 49]⟩]
def dtL : List UInt8 := [100, 116, 32, 114, 49]
def dtT : List Sc.Tok := [⟨1, 0, [100, 116]⟩, ⟨1, 0, [114, 49]⟩]
def bfL : List UInt8 := [98, 102, 32, 97, 103, 97, 105, 110]
def bfT : List Sc.Tok := [⟨1, 0, [98, 102]⟩, ⟨1, 0, [97, 103, 97, 105, 110]⟩]
def tr1L : List UInt8 := [116, 114, 97, 112, 97, 32, 35, 49]
def tr1T : List Sc.Tok := [⟨1, 0, [116, 114, 97, 112, 97]⟩, ⟨3, 0, [35]⟩, ⟨2, 1, []⟩]
def tr0L : List UInt8 := [116, 114, 97, 112, 97, 32, 35, 48]
def tr0T : List Sc.Tok := [⟨1, 0, [116, 114, 97, 112, 97]⟩, ⟨3, 0, [35]⟩, ⟨2, 0, []⟩]
theorem ok_mov0 : OkL qKB mov0T := ⟨by kernel_rfl, by kernel_rfl, by simp [mov0T], by decide, by decide⟩
theorem ok_dt : OkL dtL dtT := ⟨by kernel_rfl, by kernel_rfl, by simp [dtT], by decide, by decide⟩
theorem ok_bf : OkL bfL bfT := ⟨by kernel_rfl, by kernel_rfl, by simp [bfT], by decide, by decide⟩
theorem ok_tr1 : OkL tr1L tr1T := ⟨by kernel_rfl, by kernel_rfl, by simp [tr1T], by decide, by decide⟩
theorem ok_tr0 : OkL tr0L tr0T := ⟨by kernel_rfl, by kernel_rfl, by simp [tr0T], by decide, by decide⟩
theorem ph_of (s : List UInt8) (r : List Sc.Tok) (hs : ∀ q, q ∈ heads -> (s == q) = false) : qA7 (qDq ((⟨1, 0, s⟩ :: r : List Sc.Tok).map tkOf)) := plain_of (s := s) rfl hs
def iMov (n : Int) (r : List UInt8) : Ins := ⟨[109, 111, 118], [.num n, .reg r], 3⟩
def iAdd (n : Int) (r : List UInt8) : Ins := ⟨[97, 100, 100], [.num n, .reg r], 4⟩
def iNop : Ins := ⟨[110, 111, 112], [], 1⟩
def iDt (r : List UInt8) : Ins := ⟨[100, 116], [.reg r], 16⟩
def iBf (nm : List UInt8) : Ins := ⟨[98, 102], [.name nm], 18⟩
def iTr (n : Int) : Ins := ⟨[116, 114, 97, 112, 97], [.num n], 27⟩
def r0' : List UInt8 := [114, 48]
def r1' : List UInt8 := [114, 49]
def ksL (t b : Nat) : List (Int × Lk) := [(1, ⟨none, iMov 0 r0'⟩), (2, ⟨none, iMov t r1'⟩), (3, ⟨some qz, iAdd 1 r0'⟩)] ++ (List.replicate b (5, ⟨none, iNop⟩) ++ [(7, ⟨none, iDt r1'⟩), (8, ⟨none, iBf qz⟩), (9, ⟨none, iTr 1⟩), (10, ⟨none, iTr 0⟩)])
theorem src_len (l : List (List UInt8 × List Sc.Tok)) (h : ∀ a, a ∈ l -> OkL a.1 a.2) (hl : (l.flatMap fun a => a.1 ++ [10]).length <= 1200) : Sc.qAW (l.flatMap fun a => a.1 ++ [10]) = .ok (qBv 1 (l.map (·.2))) := by
 unfold Sc.qAW
 rw [if_neg (by omega), qFY l h]
 exact qFm l 1 h
def qBK : List UInt8 := [97, 108, 108]
def qGr : List UInt8 := [109, 111, 118, 46, 108, 32, 61, 97, 108, 108, 44, 114, 52]
def qIH : List Sc.Tok := [⟨1, 0, [109, 111, 118, 46, 108]⟩, ⟨3, 0, [61]⟩, ⟨1, 0, [97, 108, 108]⟩, ⟨3, 0, [44]⟩, ⟨1, 0, [114, 52]⟩]
theorem ok_sPool : OkL qGr qIH := ⟨by kernel_rfl, by kernel_rfl, by simp [qIH], by decide, by decide⟩
def qK8 : List UInt8 := [97, 103, 97, 105, 110, 58, 32, 109, 111, 118, 46, 108, 32, 64, 114, 52, 44, 114, 50]
def sGetT : List Sc.Tok := [⟨1, 0, [97, 103, 97, 105, 110]⟩, ⟨3, 0, [58]⟩, ⟨1, 0, [109, 111, 118, 46, 108]⟩, ⟨3, 0, [64]⟩, ⟨1, 0, [114, 52]⟩, ⟨3, 0, [44]⟩, ⟨1, 0, [114, 50]⟩]
theorem ok_sGet : OkL qK8 sGetT := ⟨by kernel_rfl, by kernel_rfl, by simp [sGetT], by decide, by decide⟩
def qKP : List UInt8 := [97, 100, 100, 32, 114, 50, 44, 114, 48]
def sAddT : List Sc.Tok := [⟨1, 0, [97, 100, 100]⟩, ⟨1, 0, [114, 50]⟩, ⟨3, 0, [44]⟩, ⟨1, 0, [114, 48]⟩]
theorem ok_sAdd : OkL qKP sAddT := ⟨by kernel_rfl, by kernel_rfl, by simp [sAddT], by decide, by decide⟩
def qHB : List UInt8 := [97, 100, 100, 32, 35, 52, 44, 114, 52]
def qID : List Sc.Tok := [⟨1, 0, [97, 100, 100]⟩, ⟨3, 0, [35]⟩, ⟨2, 4, []⟩, ⟨3, 0, [44]⟩, ⟨1, 0, [114, 52]⟩]
theorem ok_sAdd4 : OkL qHB qID := ⟨by kernel_rfl, by kernel_rfl, by simp [qID], by decide, by decide⟩
def sDpL : List UInt8 := [46, 112, 111, 111, 108]
def sDpT : List Sc.Tok := [⟨1, 0, [46, 112, 111, 111, 108]⟩]
theorem ok_sDp : OkL sDpL sDpT := ⟨by kernel_rfl, by kernel_rfl, by simp [sDpT], by decide, by decide⟩
def qLz : List UInt8 := [97, 108, 108, 58]
def sAllT : List Sc.Tok := [⟨1, 0, [97, 108, 108]⟩, ⟨3, 0, [58]⟩]
theorem ok_sAll : OkL qLz sAllT := ⟨by kernel_rfl, by kernel_rfl, by simp [sAllT], by decide, by decide⟩
theorem twenty {n : Nat} (h0 : 1 <= n) (h1 : n <= 20) : n = 1 \/ n = 2 \/ n = 3 \/ n = 4 \/ n = 5 \/ n = 6 \/ n = 7 \/ n = 8 \/ n = 9 \/ n = 10 \/ n = 11 \/ n = 12 \/ n = 13 \/ n = 14 \/ n = 15 \/ n = 16 \/ n = 17 \/ n = 18 \/ n = 19 \/ n = 20 := by omega
theorem ok_movN (n : Nat) (h0 : 1 <= n) (h1 : n <= 20) : OkL (qLM n) (movTT n) := by
 rcases twenty h0 h1 with rfl | rfl | rfl | rfl | rfl | rfl | rfl | rfl | rfl | rfl | rfl | rfl | rfl | rfl | rfl | rfl | rfl | rfl | rfl | rfl <;> exact ⟨by kernel_rfl, by kernel_rfl, by simp [movTT], by decide +kernel, by decide +kernel⟩
def qCY (n : Int) : List UInt8 := [46, 108, 111, 110, 103, 32] ++ Lib.itoa n
def qC7 (n : Int) : List Sc.Tok := [⟨1, 0, [46, 108, 111, 110, 103]⟩, ⟨2, n, []⟩]
theorem qH3 (n : Int) (h0 : 0 <= n) (h1 : n <= 1000000) : (qCY n).length <= 27 := by
 have := Lib.itoa_length_le n (by omega) (by omega)
 rw [qCY, List.length_append]
 simp only [List.length_cons, List.length_nil]
 omega
theorem ok_long (n : Int) (h0 : 0 <= n) (h1 : n <= 1000000) : OkL (qCY n) (qC7 n) := by
 have hp : qCY n = Sc.qCx (qC7 n) := by
  rw [qC7, Sc.qCr, Sc.qCk]
  simp [qCY, Sc.prT, Sc.qDt, Lib.joinTail]
 have hg : ∀ t, t ∈ qC7 n -> Sc.Good t := by
  intro t ht
  simp only [qC7, List.mem_cons, List.not_mem_nil, or_false] at ht
  rcases ht with rfl | rfl
  ·exact .inl ⟨46, [108, 111, 110, 103], rfl, by decide, by decide⟩
  ·refine .inr (.inl ⟨n.toNat, ?_, by omega⟩)
   rw [Int.toNat_of_nonneg h0]
 have hlen := qH3 n h0 h1
 obtain ⟨e1, e2⟩ := Sc.qGV (l := qCY n) (done := qC7 n) (by omega) (by rw [hp, Sc.qJe _ hg]; exact Sc.qJF _ hg)
 refine ⟨e1, e2, by simp [qC7], ?_, by omega⟩
 intro c hc
 rw [qCY, List.mem_append] at hc
 rcases hc with hc | hc
 ·intro e; subst e; revert hc; decide
 ·rw [Sc.itoa_nat n h0] at hc
  have := List.all_eq_true.1 (Sc.qCB _) c hc
  intro e; subst e; revert this; decide
def qGZ (n : Nat) : List (List UInt8 × List Sc.Tok) := [(qGr, qIH), (qKB, mov0T), (qLM n, movTT n), (qK8, sGetT), (qKP, sAddT), (qHB, qID), (dtL, dtT), (bfL, bfT), (tr1L, tr1T), (tr0L, tr0T), (sDpL, sDpT), (qLz, sAllT)]
def qEd (l : List Int) : List (List UInt8 × List Sc.Tok) := l.map fun n => (qCY n, qC7 n)
def sumL (l : List Int) : List (List UInt8 × List Sc.Tok) := qGZ l.length ++ qEd l
def sumS (l : List Int) : List UInt8 := (sumL l).flatMap fun a => a.1 ++ [10]
def qJl (l : List Int) : List Sc.Ln := qBv 1 ((sumL l).map (·.2))
theorem sum_ok (l : List Int) (h0 : 1 <= l.length) (h1 : l.length <= 20) (hv : ∀ n, n ∈ l -> 0 <= n /\ n <= 1000000) : ∀ a, a ∈ sumL l -> OkL a.1 a.2 := by
 intro a ha
 rw [sumL, List.mem_append] at ha
 rcases ha with ha | ha
 ·simp only [qGZ, List.mem_cons, List.not_mem_nil, or_false] at ha
  rcases ha with rfl | rfl | rfl | rfl | rfl | rfl | rfl | rfl | rfl | rfl | rfl | rfl
  ·exact ok_sPool
  ·exact ok_mov0
  ·exact ok_movN _ h0 h1
  ·exact ok_sGet
  ·exact ok_sAdd
  ·exact ok_sAdd4
  ·exact ok_dt
  ·exact ok_bf
  ·exact ok_tr1
  ·exact ok_tr0
  ·exact ok_sDp
  ·exact ok_sAll
 ·obtain ⟨n, hn, rfl⟩ := List.mem_map.1 ha
  have := hv n hn
  exact ok_long n this.1 this.2
theorem qFZ : ∀ l : List Int, (∀ n, n ∈ l -> 0 <= n /\ n <= 1000000) -> ((qEd l).flatMap fun a => a.1 ++ [10]).length <= 28 * l.length
 | [], _ => by simp [qEd]
 | n :: l, h => by
   have := qFZ l fun m hm => h m (by simp [hm])
   have h1 := h n (by simp)
   have h2 := qH3 n h1.1 h1.2
   simp only [qEd, List.map_cons, List.flatMap_cons, List.length_append, List.length_cons, List.length_nil] at this ⊢
   omega
theorem qIh (l : List Int) (h1 : l.length <= 20) (hv : ∀ n, n ∈ l -> 0 <= n /\ n <= 1000000) : (sumS l).length <= 1000 := by
 have h2 := qFZ l hv
 have h3 := Lib.itoa_length_le (l.length : Int) (by omega) (by omega)
 rw [sumS, sumL, List.flatMap_append, List.length_append]
 simp only [qGZ, List.flatMap_cons, List.flatMap_nil, List.length_append, List.length_cons, List.length_nil, qGr, qKB, qLM, qK8, qKP, qHB, dtL, bfL, tr1L, tr0L, sDpL, qLz]
 omega
theorem sum_src (l : List Int) (h0 : 1 <= l.length) (h1 : l.length <= 20) (hv : ∀ n, n ∈ l -> 0 <= n /\ n <= 1000000) : Sc.qAW (sumS l) = .ok (qJl l) :=
 src_len _ (sum_ok l h0 h1 hv) (by have := qIh l h1 hv; unfold sumS at this; omega)
theorem qKr (l : List Int) : ∀ x, x ∈ qJl l -> x.toks.length <= 100000 /\ qA7 (qDq (x.toks.map tkOf)) := by
 have key : ∀ (ls : List (List Sc.Tok)) (k : Nat), (∀ t, t ∈ ls -> t.length <= 100000 /\ qA7 (qDq (t.map tkOf))) -> ∀ x, x ∈ qBv k ls -> x.toks.length <= 100000 /\ qA7 (qDq (x.toks.map tkOf)) := by
  intro ls
  induction ls with
  | nil => intro k _ x hx; simp [qBv] at hx
  | cons a r ih =>
    intro k h x hx
    simp only [qBv, List.mem_cons] at hx
    rcases hx with rfl | hx
    ·exact h a (by simp)
    ·exact ih (k + 1) (fun t ht => h t (by simp [ht])) x hx
 refine key _ 1 ?_
 intro t ht
 rw [sumL, List.map_append, List.mem_append] at ht
 rcases ht with ht | ht
 ·simp only [qGZ, List.map_cons, List.map_nil, List.mem_cons, List.not_mem_nil, or_false] at ht
  rcases ht with rfl | rfl | rfl | rfl | rfl | rfl | rfl | rfl | rfl | rfl | rfl | rfl <;> exact ⟨by simp [qIH, mov0T, movTT, sGetT, sAddT, qID, dtT, bfT, tr1T, tr0T, sDpT, sAllT], ph_of _ _ (by decide)⟩
 ·simp only [qEd, List.map_map, List.mem_map] at ht
  obtain ⟨n, _, rfl⟩ := ht
  exact ⟨by simp [qC7], ph_of _ _ (by decide)⟩
end Go.Proofs.YtfmljailbebfgaaGreatDoor
namespace Go.Proofs.YtfmljailbebfgaaGreatDoor
open Go.RowKit Go.Maps Go.MapKept
def PoR (W : World) (gp mi : Nat) : Option (List UInt8 × Int) -> Prop
 | none => W.heap[gp]? = some (.cells #[.int .i64 0, .slice none 0 0, .map (some mi)] 186 (0, 0)) /\ W.heap[mi]? = some (.map #[] 0)
 | some (nm, n) => ∃ va vc b0, W.heap[gp]? = some (.cells #[.int .i64 0, .slice va 1 vc, .map (some mi)] 186 (0, 0)) /\ W.ownsRow b0 203 2 (.slice va 1 vc) 1 [.string ⟨nm.toArray⟩, .int .i64 n]
structure AlQ (w W : World) (gu mb gp mi : Nat) (ln : Int) (labs : List (List UInt8 × Nat)) (its : List It) (q : Option (List UInt8 × Int)) (old : Option (Nat × Nat)) : Prop where
 bx : Bx w W
 ur : ∃ nv, UR W (gu + 1) gu (.slice none 0 0) ln nv (.map (some mb)) (.pointer (some ⟨gp, 0, none⟩)) (.slice none 0 0) (.slice none 0 0) its /\ W.ownsRow (gu + 1) 9 1 nv labs.length (qB7 labs)
 lb : LbR W mb labs
 po : PoR W gp mi q
 od : ∀ g f, old = some (g, f) -> ∃ vv mv, W.heap[g]? = some (.cells #[.int .i64 ((f : Nat) : Int), vv, mv] 186 (0, 0))
theorem AlQ.of {w W : World} {gu mb gp mi : Nat} {ln : Int} {labs : List (List UInt8 × Nat)} {its : List It} (h : AlR w W gu mb gp mi ln labs its false) : AlQ w W gu mb gp mi ln labs its none none :=
 ⟨h.bx, h.ur, h.lb, by have := h.po; simp only [Bool.false_eq_true, if_false] at this; exact this, fun _ _ e => by cases e⟩
def qDQ (W W' : World) : Prop := ∀ (q : Nat) (o : Obj), W.heap[q]? = some o -> (∀ c f, o ≠ .cells c 143 f) -> (∀ c f, o ≠ .cells c 200 f) -> W'.heap[q]? = some o
theorem qDQ.below {W W' : World} (h : Below W.heap.size W W') : qDQ W W' := fun q o hb _ _ => by rw [h.block q (qC hb)]; exact hb
theorem qDQ.cells {W W' : World} (h : qDQ W W') {q : Nat} {c : Array Value} {t : TypeId} (hq : W.heap[q]? = some (.cells c t (0, 0))) (h1 : t ≠ 143) (h2 : t ≠ 200) : W'.heap[q]? = some (.cells c t (0, 0)) :=
 h q _ hq (fun c f e => by injection e with _ e3; exact h1 e3) (fun c f e => by injection e with _ e3; exact h2 e3)
theorem qDQ.map {W W' : World} (h : qDQ W W') {q : Nat} {es : Array MapEntry} {ck : Nat} (hq : W.heap[q]? = some (.map es ck)) : W'.heap[q]? = some (.map es ck) :=
 h q _ hq (fun c f e => by cases e) (fun c f e => by cases e)
theorem qDQ.row {W W' : World} (h : qDQ W W') {base size n : Nat} {e : TypeId} {v : Value} {xs : List Value} (hr : W.ownsRow base e size v n xs) (h1 : e ≠ 143) (h2 : e ≠ 200) : W'.ownsRow base e size v n xs := by
 refine ⟨hr.1, ?_⟩
 rcases hr.2 with h5 | ⟨q, cap, cur, h5, h6, h7, h8⟩
 ·exact .inl h5
 ·exact .inr ⟨q, cap, cur, h5, h6, h.cells h7 h1 h2, h8⟩
theorem qDQ.lbr {W W' : World} (h : qDQ W W') {mb : Nat} {labs : List (List UInt8 × Nat)} (hl : LbR W mb labs) : LbR W' mb labs := by
 obtain ⟨D, ⟨es, ck, hb, F⟩, hd⟩ := hl
 exact ⟨D, ⟨es, ck, h.map hb, F⟩, hd⟩
theorem PoR.keep {W W' : World} (h : qDQ W W') {gp mi : Nat} {q : Option (List UInt8 × Int)} (hp : PoR W gp mi q) : PoR W' gp mi q := by
 cases q with
 | none => exact ⟨h.cells hp.1 (by decide) (by decide), h.map hp.2⟩
 | some x =>
   obtain ⟨va, vc, b0, p1, p2⟩ := hp
   exact ⟨va, vc, b0, h.cells p1 (by decide) (by decide), h.row p2 (by decide) (by decide)⟩
section
variable {w W W' : World} {gu mb gp mi : Nat} {ln : Int} {labs : List (List UInt8 × Nat)} {its : List It} {q : Option (List UInt8 × Int)} {old : Option (Nat × Nat)}
theorem AlQ.move (h : AlQ w W gu mb gp mi ln labs its q old) {ln' : Int} {its' : List It} (hk : qDQ W W') (hb : Below w.heap.size w W') (hu : ∀ nv, UR W (gu + 1) gu (.slice none 0 0) ln nv (.map (some mb)) (.pointer (some ⟨gp, 0, none⟩)) (.slice none 0 0) (.slice none 0 0) its -> UR W' (gu + 1) gu (.slice none 0 0) ln' nv (.map (some mb)) (.pointer (some ⟨gp, 0, none⟩)) (.slice none 0 0) (.slice none 0 0) its') : AlQ w W' gu mb gp mi ln' labs its' q old := by
 obtain ⟨nv, h1, h2⟩ := h.ur
 refine ⟨⟨hb, hk.cells h.bx.x0 (by decide) (by decide), hk.cells h.bx.x1 (by decide) (by decide)⟩, ⟨nv, hu nv h1, hk.row h2 (by decide) (by decide)⟩, hk.lbr h.lb, h.po.keep hk, fun g f e => ?_⟩
 obtain ⟨vv, mv, ho⟩ := h.od g f e
 exact ⟨vv, mv, hk.cells ho (by decide) (by decide)⟩
theorem AlQ.go (h : AlQ w W gu mb gp mi ln labs its q old) (hb : Below W.heap.size W W') : AlQ w W' gu mb gp mi ln labs its q old :=
 h.move (qDQ.below hb) (h.bx.bel.trans (hb.mono h.bx.bel.size)) fun _ hu => hu.go hb
theorem AlQ.keep {its' : List It} (h : AlQ w W gu mb gp mi ln labs its q old) (hk : qBm W W') (hf : Fr gu (gu + 1) W W') (hge : w.heap.size + 2 <= gu) (hu : ∀ nv, UR W (gu + 1) gu (.slice none 0 0) ln nv (.map (some mb)) (.pointer (some ⟨gp, 0, none⟩)) (.slice none 0 0) (.slice none 0 0) its -> UR W' (gu + 1) gu (.slice none 0 0) ln nv (.map (some mb)) (.pointer (some ⟨gp, 0, none⟩)) (.slice none 0 0) (.slice none 0 0) its') : AlQ w W' gu mb gp mi ln labs its' q old :=
 h.move hk.2 (h.bx.bel.trans ⟨hf.os, hf.tape, hf.output, hf.size, fun i hi => hf.block i (by omega) (by omega)⟩) hu
theorem AlQ.line (h : AlQ w W gu mb gp mi ln labs its q old) (hge : w.heap.size + 2 <= gu) (p : Int) (o : Obj) : AlQ w ((W.setCell ⟨gu, 1, none⟩ (.int .i64 p)).alloc o) gu mb gp mi p labs its q old := by
 refine AlQ.go (W := W.setCell ⟨gu, 1, none⟩ (.int .i64 p)) ?_ (qD _ _)
 obtain ⟨nv, h1, h2⟩ := h.ur
 obtain ⟨iv, il, x1, _⟩ := id h1.its
 refine h.move (fun i o hi n1 _ => ?_) (h.bx.bel.setCell (p := ⟨gu, 1, none⟩) (by show w.heap.size <= gu; omega) _) (fun _ hn => hn.line p)
 rw [Below.heap_setCell _ _ _ _ (by show i ≠ gu; rintro rfl; rw [x1] at hi; injection hi with hi; exact n1 _ _ hi.symm)]
 exact hi
theorem qK2 (i : Ins) (hi : i.Ok) (hA : qAL w) (hge : w.heap.size + 2 <= gu) (hits : its.length <= 100000) (X : World) (oa : Option Addr) (oc : Nat) (hX : AlQ w X gu mb gp mi ln labs its q old) (ho : OpsR X oa (i.ops.map OpK.opd)) :
  Calls Tryz.prog 95 #[.pointer (some ⟨gu, 0, none⟩), .string ⟨i.name.toArray⟩, .slice oa (i.ops.map OpK.opd).length oc] X fun r w' => r = .returned (.int .i64 0) /\ AlQ w w' gu mb gp mi ln labs (its ++ [i.it ln]) q old := by
 obtain ⟨nv, hu, _⟩ := hX.ur
 have hn : (ByteArray.mk i.name.toArray).toList ∉ dirs := by rw [ByteArray.toList_eq]; simpa using hi.name
 have hkd : ∀ o, o ∈ i.ops.map OpK.opd -> o.kd.data.toList.length = 1 := by
  intro o h
  obtain ⟨k, _, rfl⟩ := List.mem_map.1 h
  exact kd_one k
 have hnm : ∀ o, o ∈ i.ops.map OpK.opd -> o.kd.toList = kdN -> o.nm = ⟨#[]⟩ := by
  intro o h
  obtain ⟨k, _, rfl⟩ := List.mem_map.1 h
  exact kd_nm k
 have hlen : (i.ops.map OpK.opd).length <= 1000 := by have := hi.n; simp; omega
 refine qDl gu _ oa _ oc X _ hn ?_
 have hplain : (qAY (i.ops.map OpK.opd)).head? ≠ some 112 -> i.it ln = qAG ln i.fill.op i.fill.n i.fill.m i.fill.imm -> Calls Tryz.prog 136 #[.pointer (some ⟨gu, 0, none⟩), .string ⟨i.name.toArray⟩, .slice oa (i.ops.map OpK.opd).length oc] X fun r w' => r = .returned (.int .i64 0) /\ AlQ w w' gu mb gp mi ln labs (its ++ [i.it ln]) q old := by
  intro h1 h2
  rw [h2]
  refine (qHY gu (gu + 1) _ nv _ _ _ _ ln its ⟨i.name.toArray⟩ (i.ops.map OpK.opd) oa oc i.op X hu (hA.isa.below hX.bx.bel hA.isa.sz) (hA.frm.below hX.bx.bel hA.frm.sz) ho hlen hkd hnm hi.pool h1 hi.found hi.op hi.right hits).mono ?_
  rintro r w' ⟨rfl, hu', hf, hk⟩
  refine ⟨rfl, hX.keep hk hf hge (fun nv' hn => ?_)⟩
  obtain rfl := hn.same hu
  exact hu'
 cases hops : i.ops with
 | nil => rw [hops] at hplain; exact hplain (by decide) (by simp [Ins.it, hops])
 | cons a r =>
   cases a with
   | name nm =>
     have h2 : i.it ln = qDd ln i.fill.op i.fill.n i.fill.m i.fill.imm (.val nm 0) := by simp [Ins.it, hops]
     rw [h2, <- hops]
     refine (qJI gu (gu + 1) _ nv _ _ _ _ ln its ⟨i.name.toArray⟩ (i.ops.map OpK.opd) ⟨⟨#[112]⟩, 0, ⟨nm.toArray⟩, 0⟩ nm (by rw [hops]; rfl) rfl oa oc i.op X hu (hA.isa.below hX.bx.bel hA.isa.sz) (hA.frm.below hX.bx.bel hA.frm.sz) ho hlen hkd hnm hi.pool (by rw [hops]; simp [qAY, OpK.opd]) hi.found hi.op hi.right hits).mono ?_
     rintro r w' ⟨rfl, hu', hf, hk⟩
     refine ⟨rfl, hX.keep hk hf hge (fun nv' hn => ?_)⟩
     obtain rfl := hn.same hu
     exact hu'
   | reg t => rw [hops] at hplain; exact hplain (by simp [qAY, OpK.opd]) (by simp [Ins.it, hops])
   | num t => rw [hops] at hplain; exact hplain (by simp [qAY, OpK.opd]) (by simp [Ins.it, hops])
   | ind t => rw [hops] at hplain; exact hplain (by simp [qAY, OpK.opd]) (by simp [Ins.it, hops])
   | pool t => rw [hops] at hplain; exact hplain (by simp [qAY, OpK.opd]) (by simp [Ins.it, hops])
end
theorem qGH (w W : World) (gu mb gp mi : Nat) (v : Value) (ln : Int) (labs : List (List UInt8 × Nat)) (its : List It) (q : Option (List UInt8 × Int)) (old : Option (Nat × Nat)) (k : Lk) (ts : List Tk) (hts : labelled ts = false) (hlo : ∀ nm, k.lab = some nm -> nm.length <= maxLen /\ regU 1 nm < 0 /\ Xp.qO nm = true) (hA : qAL w) (hge : w.heap.size + 2 <= gu /\ w.heap.size + 2 <= mb) (hne : mi ≠ mb) (h : AlQ w W gu mb gp mi ln labs its q old) (hits : its.length <= 100000) (hll : labs.length <= 100000) (hfree : ∀ nm, k.lab = some nm -> qP nm labs = none)
  (hv : qJ w v (match k.lab with | none => ts | some nm => wd nm :: sg 58 :: ts)) :
  Calls Tryz.prog 91 #[.pointer (some ⟨gu, 0, none⟩), v] W fun r w' => ∃ v', r = .returned (.tuple #[v', .int .i64 0]) /\ qJ w v' ts /\ AlQ w w' gu mb gp mi ln (labs ++ k.labs its.length) its q old := by
 cases hl : k.lab with
 | none =>
   rw [hl] at hv
   have e2 : k.labs its.length = [] := by simp [Lk.labs, hl]
   rw [e2, List.append_nil]
   refine (qCD gu v _ W (hv.below h.bx.bel (Nat.le_refl _)) hts).mono ?_
   rintro r w' ⟨rfl, hb⟩
   exact ⟨v, rfl, hv, h.go hb⟩
 | some nm =>
   rw [hl] at hv
   have e2 : k.labs its.length = [(nm, its.length)] := by simp [Lk.labs, hl]
   rw [e2]
   obtain ⟨n1, n2, n3⟩ := hlo nm hl
   obtain ⟨nv, hu, hN⟩ := h.ur
   have hown : ∀ i, i <= gu -> some i ≠ nv.ownBlock := fun i hi e => by
    have := (hN.lt i e.symm).1
    omega
   obtain ⟨es0, ck0, hmb⟩ : ∃ es ck, W.heap[mb]? = some (.map es ck) := by obtain ⟨D, ⟨es, ck, hb, _⟩, _⟩ := h.lb; exact ⟨es, ck, hb⟩
   obtain ⟨iv, il, x1, _⟩ := id hu.its
   refine (qI9 gu (gu + 1) mb ln nv _ _ _ its labs nm 0 0 ts v w W h.bx.bel (by omega) (by omega) hv hts hu hN h.lb (hfree nm hl) n1 (hA.gl.below h.bx.bel hA.gl.sz) n2 n3 hits hll).mono ?_
   rintro r w' ⟨v', nv', rfl, hv', hB, hu', hn', hl', hc⟩
   have key : ∀ {i : Nat} {c : Array Value} {t : TypeId}, W.heap[i]? = some (.cells c t (0, 0)) -> t ≠ 143 -> t ≠ 9 -> w'.heap[i]? = some (.cells c t (0, 0)) := fun {i c t} hi h1 h2 => by
    rw [hc.block _ (qC hi) (by rintro rfl; rw [x1] at hi; injection hi with hi; injection hi with _ e2; exact h1 e2.symm) (by rintro rfl; rw [hmb] at hi; cases hi) (qAm hN hi h2)]
    exact hi
   have keyr : ∀ {base size n : Nat} {e : TypeId} {v : Value} {xs : List Value}, W.ownsRow base e size v n xs -> e ≠ 143 -> e ≠ 9 -> w'.ownsRow base e size v n xs := fun {base size n e v xs} hr h1 h2 => by
    refine ⟨hr.1, ?_⟩
    rcases hr.2 with h5 | ⟨q, cap, cur, h5, h6, h7, h8⟩
    ·exact .inl h5
    ·exact .inr ⟨q, cap, cur, h5, h6, key h7 h1 h2, h8⟩
   refine ⟨v', rfl, hv', ⟨⟨hB, ?_, ?_⟩, ⟨nv', hu', by rw [List.length_append]; exact hn'⟩, hl', ?_, ?_⟩⟩
   ·rw [hc.block _ (qC h.bx.x0) (by omega) (by omega) (hown _ (by omega))]; exact h.bx.x0
   ·rw [hc.block _ (qC h.bx.x1) (by omega) (by omega) (hown _ (by omega))]; exact h.bx.x1
   ·have hp := h.po
    cases q with
    | none =>
      refine ⟨key hp.1 (by decide) (by decide), ?_⟩
      rw [hc.block _ (qC hp.2) (by intro e; have hm := hp.2; rw [e, x1] at hm; cases hm) hne (qCs hN hp.2)]
      exact hp.2
    | some x =>
      obtain ⟨va, vc, b0, p1, p2⟩ := hp
      exact ⟨va, vc, b0, key p1 (by decide) (by decide), keyr p2 (by decide) (by decide)⟩
   ·intro g f e
    obtain ⟨vv, mv, ho⟩ := h.od g f e
    exact ⟨vv, mv, key ho (by decide) (by decide)⟩
theorem qIc (w W : World) (gu mb gp mi : Nat) (v : Value) (ln : Int) (labs : List (List UInt8 × Nat)) (its : List It) (q : Option (List UInt8 × Int)) (old : Option (Nat × Nat)) (k : Lk) (hk : k.Ok) (hA : qAL w) (hge : w.heap.size + 2 <= gu /\ w.heap.size + 2 <= mb) (hne : mi ≠ mb) (h : AlQ w W gu mb gp mi ln labs its q old) (hits : its.length <= 100000) (hll : labs.length <= 100000) (hfree : ∀ nm, k.lab = some nm -> qP nm labs = none) (hv : qJ w v k.toks) :
  Calls Tryz.prog 73 #[.pointer (some ⟨gu, 0, none⟩), v] W fun r w' => r = .returned (.int .i64 0) /\ AlQ w w' gu mb gp mi ln (labs ++ k.labs its.length) (its ++ [k.ins.it ln]) q old := by
 obtain ⟨hio, hlo⟩ := hk
 refine qDw gu v 0 ⟨k.ins.name.toArray⟩ (qBY k.ins.ops) (k.ins.ops.map OpK.opd) w W (fun X => AlQ w X gu mb gp mi ln (labs ++ k.labs its.length) its q old) _ ?_ (fun A B h1 h2 => h1.go h2) (fun X hX => hX.bx.bel) ?_ ?_ (by obtain ⟨a, b, e, _⟩ := hv; exact ⟨_, _, _, e⟩)
 ·exact qGH w W gu mb gp mi v ln labs its q old k k.ins.toks hio.lab hlo hA hge hne h hits hll hfree hv
 ·intro X v2 hX hv2
  obtain ⟨nv, hu, _⟩ := hX.ur
  exact qKf k.ins.ops hio.ops hio.n gu v2 X (KL.below hA.ex hX.bx.bel) (hA.gl.below hX.bx.bel hA.gl.sz) (hv2.below hX.bx.bel (Nat.le_refl _)) hu.cell0
 ·intro X oa oc hX ho
  exact qK2 k.ins hio hA hge.1 hits X oa oc hX ho
def movlL : List UInt8 := [109, 111, 118, 46, 108]
def qD3 (nm rg : List UInt8) : List Tk := wd movlL :: qBY [.pool nm, .reg rg]
section
variable (w W : World) (gu mb gp mi : Nat) (v : Value) (ln : Int) (labs : List (List UInt8 × Nat)) (its : List It) (old : Option (Nat × Nat))
theorem qI3 (nm rg : List UInt8) (hnm : Xp.qO nm = true) (hrg : 0 <= regU 1 rg) (hA : qAL w) (hge : w.heap.size + 2 <= gu /\ w.heap.size + 2 <= mb /\ w.heap.size + 2 <= gp /\ w.heap.size + 2 <= mi) (hne : mi ≠ mb) (h : AlQ w W gu mb gp mi ln labs its none old) (hold : ∀ g f, old = some (g, f) -> g ≠ gp) (hits : its.length <= 100000) (hlab : labelled (qD3 nm rg) = false) (hv : qJ w v (qD3 nm rg)) :
  Calls Tryz.prog 73 #[.pointer (some ⟨gu, 0, none⟩), v] W fun r w' => r = .returned (.int .i64 0) /\ AlQ w w' gu mb gp mi ln labs (its ++ [qDd ln 24 (regU 1 rg) 0 0 (.slot gp 0)]) (some (nm, 0)) old := by
 obtain ⟨g1, g2, g3, g4⟩ := hge
 refine qDw gu v 0 ⟨movlL.toArray⟩ (qBY [.pool nm, .reg rg]) ([OpK.pool nm, .reg rg].map OpK.opd) w W (fun X => AlQ w X gu mb gp mi ln labs its none old) _ ?_ (fun A B h1 h2 => h1.go h2) (fun X hX => hX.bx.bel) ?_ ?_ (by obtain ⟨a, b, e, _⟩ := hv; exact ⟨_, _, _, e⟩)
 ·refine (qCD gu v _ W (hv.below h.bx.bel (Nat.le_refl _)) hlab).mono ?_
  rintro r w' ⟨rfl, hb⟩
  exact ⟨v, rfl, hv, h.go hb⟩
 ·intro X v2 hX hv2
  obtain ⟨nv, hu, _⟩ := hX.ur
  exact qKf [.pool nm, .reg rg] (by intro k hk; simp at hk; rcases hk with rfl | rfl; exact hnm; exact hrg) (by simp) gu v2 X (KL.below hA.ex hX.bx.bel) (hA.gl.below hX.bx.bel hA.gl.sz) (hv2.below hX.bx.bel (Nat.le_refl _)) hu.cell0
 ·intro X oa oc hX ho
  obtain ⟨nv, hu, hn⟩ := hX.ur
  have hp := hX.po
  have hsz := hA.isa.sz
  refine qDl gu _ oa 2 oc X _ (by rw [ByteArray.toList_eq]; decide) ?_
  refine (qJo gu (gu + 1) gp mi _ nv _ _ _ ln 0 its nm 0 (regU 1 rg) oa oc X hu (hA.isa.below hX.bx.bel hA.isa.sz) ho hp.1 hp.2 hits (by omega) (by omega)).mono ?_
  rintro r w' ⟨rfl, hu', ⟨va, vc, p1, p2⟩, ⟨o1, o2, o3, o4⟩, hsz', hk⟩
  have hBX := hX.bx.bel
  have nc : ∀ {c : Array Value} {t : TypeId}, t ≠ 143 -> ∀ c' f', Obj.cells c t (0, 0) ≠ .cells c' 143 f' := fun ht c' f' e => by injection e with _ e3; exact ht e3
  have ni : ∀ {c : Array Value} {t : TypeId}, t ≠ 200 -> ∀ c' f', Obj.cells c t (0, 0) ≠ .cells c' 200 f' := fun ht c' f' e => by injection e with _ e3; exact ht e3
  obtain ⟨iv, il, x1, x2, _⟩ := id hu.its
  refine ⟨rfl, ⟨⟨⟨o1.trans hBX.os, o2.trans hBX.tape, o3.trans hBX.output, Nat.le_trans hBX.size hsz', fun i hi => ?_⟩, hk _ _ hX.bx.x0 (nc (by decide)) (ni (by decide)) (by omega) (by omega), hk _ _ hX.bx.x1 (nc (by decide)) (ni (by decide)) (by omega) (by omega)⟩, ⟨nv, hu', ?_⟩, ?_, ?_, ?_⟩⟩
  ·rw [o4 i (by omega) (by omega) (by omega) (by omega)]
   exact hBX.block i hi
  ·refine ⟨hn.1, ?_⟩
   rcases hn.2 with h5 | ⟨q, cap, cur, h5, h6, h7, h8⟩
   ·exact .inl h5
   ·exact .inr ⟨q, cap, cur, h5, h6, hk _ _ h7 (nc (by decide)) (ni (by decide)) (by rintro rfl; rw [hp.1] at h7; injection h7 with h7; injection h7 with _ e3; exact absurd e3 (by decide)) (by rintro rfl; rw [hp.2] at h7; cases h7), h8⟩
  ·obtain ⟨D, ⟨es, ck, hb, F⟩, hd⟩ := hX.lb
   exact ⟨D, ⟨es, ck, hk _ _ hb (by intro c f e; cases e) (by intro c f e; cases e) (by rintro rfl; rw [hp.1] at hb; cases hb) (Ne.symm hne), F⟩, hd⟩
  ·exact ⟨va, vc, _, p1, p2⟩
  ·intro g f e
   obtain ⟨vv, mv, hod⟩ := hX.od g f e
   exact ⟨vv, mv, hk _ _ hod (nc (by decide)) (ni (by decide)) (hold g f e) (by rintro rfl; rw [hp.2] at hod; cases hod)⟩
end
def qH7 : List UInt8 := [46, 112, 111, 111, 108]
def qLN : List UInt8 := [46, 108, 111, 110, 103]
theorem qEp (gu : Nat) (oa : Option Addr) (oc : Nat) (w : World) (Q : World -> Prop) (h : Calls Tryz.prog 74 #[.pointer (some ⟨gu, 0, none⟩)] w fun r w' => r = .returned (.tuple #[]) /\ Q w') :
  Calls Tryz.prog 95 #[.pointer (some ⟨gu, 0, none⟩), .string ⟨#[46, 112, 111, 111, 108]⟩, .slice oa 0 oc] w fun r w' => r = .returned (.int .i64 0) /\ Q w' := by
 have HN := Lib.hid h
 clear h
 go_enter Tryz.func95, Tryz.ntmps95
 go_wp2_with (go_at_call 74; refine HN.out.mono ?_; rintro e' w1 ⟨rfl, h1⟩)
 go_ret
 exact ⟨rfl, h1⟩
theorem qED (gu B : Nat) (e nv lm pp pv rv : Value) (ln : Int) (its : List It) (ns : List Int) (oa : Option Addr) (oc : Nat) (w : World) (h : UR w B gu e ln nv lm pp pv rv its) (hn0 : 0 < ns.length) (hn : its.length + ns.length <= 100000)
  (hr : OpsR w oa (ns.map fun n => ⟨⟨#[112]⟩, 0, ⟨#[]⟩, n⟩)) (hfit : ∀ n, n ∈ ns -> qEb n 32 = true) :
  Calls Tryz.prog 95 #[.pointer (some ⟨gu, 0, none⟩), .string ⟨#[46, 108, 111, 110, 103]⟩, .slice oa ns.length oc] w fun r w' => r = .returned (.int .i64 0) /\ UR w' B gu e ln nv lm pp pv rv (its ++ ns.map (numI ln 4 [])) /\ Fr gu B w w' /\ qBm w w' := by
 have HN := Lib.hid (qG4 gu B e nv lm pp pv rv ln its 4 ns oa oc w h (.inr (.inr rfl)) hn0 hn hr hfit)
 clear h hr hfit
 go_enter Tryz.func95, Tryz.ntmps95
 go_wp2_with (go_at_call 134; refine HN.out.mono ?_; rintro e' w1 ⟨rfl, h1, h2, h3⟩)
 go_ret
 exact ⟨rfl, h1, h2, h3⟩
theorem qHS (gu : Nat) (v : Value) (w0 w : World) (PL : World -> Prop)
  (hlab : Calls Tryz.prog 91 #[.pointer (some ⟨gu, 0, none⟩), v] w fun r w1 => ∃ v', r = .returned (.tuple #[v', .int .i64 0]) /\ qJ w0 v' [] /\ PL w1) (hv : ∃ ad l c, v = .slice ad l c) :
  Calls Tryz.prog 73 #[.pointer (some ⟨gu, 0, none⟩), v] w fun r w' => r = .returned (.int .i64 0) /\ PL w' := by
 have HLB := Lib.hid hlab
 obtain ⟨ad, vl, vc, rfl⟩ := hv
 clear hlab
 go_enter Tryz.func73, Tryz.ntmps73
 go_wp2_with fail
 refine HLB.out.mono ?_
 rintro e w1 ⟨v', rfl, hp, hl⟩
 obtain ⟨a, c, rfl, _⟩ := hp
 simp only [List.length_nil] at *
 clear HLB
 go_wp2_with fail
 go_ret
 exact ⟨rfl, hl⟩
section
variable (w W : World) (gu mb gp mi : Nat) (v : Value) (ln : Int) (labs : List (List UInt8 × Nat)) (its : List It)
theorem pool_end (nm : List UInt8) (n : Int) (hge : w.heap.size + 2 <= gu /\ w.heap.size + 2 <= mb /\ w.heap.size + 2 <= gp /\ w.heap.size + 2 <= mi) (h : AlQ w W gu mb gp mi ln labs its (some (nm, n)) none) (hits : its.length <= 90000) :
  Calls Tryz.prog 74 #[.pointer (some ⟨gu, 0, none⟩)] W fun r w' => r = .returned (.tuple #[]) /\ ∃ gp' mi', AlQ w w' gu mb gp' mi' ln labs (its ++ [qGA ln 4, numI ln 4 nm n]) none (some (gp, its.length + 1)) /\ (w.heap.size + 2 <= gp' /\ w.heap.size + 2 <= mi') /\ mi' ≠ mb := by
 obtain ⟨g1, g2, g3, g4⟩ := hge
 obtain ⟨nv, hu, hn⟩ := h.ur
 obtain ⟨va, vc, b0, p1, p2⟩ := h.po
 obtain ⟨es0, ck0, hmb⟩ : ∃ es ck, W.heap[mb]? = some (.map es ck) := by obtain ⟨D, ⟨es, ck, hb, _⟩, _⟩ := h.lb; exact ⟨es, ck, hb⟩
 refine (qHF gu (gu + 1) gp mi _ nv _ _ _ ln 0 its nm n va vc b0 W hu p1 p2 hits).mono ?_
 rintro r w' ⟨rfl, ⟨gp', mq, hu', ⟨hq0, hq1⟩, hq2, hq3⟩, hp', ⟨o1, o2, o3, o4⟩, hsz, hk⟩
 have hBX := h.bx.bel
 have hgu := qC p1
 have hmbl := qC hmb
 obtain ⟨iv, il, x1, _⟩ := id hu.its
 have hgul := qC x1
 have nc : ∀ {c : Array Value} {t : TypeId}, t ≠ 143 -> ∀ c' f', Obj.cells c t (0, 0) ≠ .cells c' 143 f' := fun ht c' f' e => by injection e with _ e3; exact ht e3
 have ni : ∀ {c : Array Value} {t : TypeId}, t ≠ 200 -> ∀ c' f', Obj.cells c t (0, 0) ≠ .cells c' 200 f' := fun ht c' f' e => by injection e with _ e3; exact ht e3
 refine ⟨rfl, gp', mq, ⟨⟨⟨o1.trans hBX.os, o2.trans hBX.tape, o3.trans hBX.output, Nat.le_trans hBX.size hsz, fun i hi => ?_⟩, hk _ _ h.bx.x0 (nc (by decide)) (ni (by decide)) (by omega), hk _ _ h.bx.x1 (nc (by decide)) (ni (by decide)) (by omega)⟩, ⟨nv, hu', ?_⟩, ?_, ⟨hq2, hq3⟩, ?_⟩, ⟨by omega, by omega⟩, by omega⟩
 ·rw [o4 i (by omega) (by omega) (by omega)]
  exact hBX.block i hi
 ·refine ⟨hn.1, ?_⟩
  rcases hn.2 with h5 | ⟨q, cap, cur, h5, h6, h7, h8⟩
  ·exact .inl h5
  ·exact .inr ⟨q, cap, cur, h5, h6, hk _ _ h7 (nc (by decide)) (ni (by decide)) (by rintro rfl; rw [p1] at h7; injection h7 with h7; injection h7 with _ e3; exact absurd e3 (by decide)), h8⟩
 ·obtain ⟨D, ⟨es, ck, hb, F⟩, hd⟩ := h.lb
  exact ⟨D, ⟨es, ck, hk _ _ hb (by intro c f e; cases e) (by intro c f e; cases e) (by rintro rfl; rw [p1] at hb; cases hb), F⟩, hd⟩
 ·intro g f e
  injection e with e
  injection e with e1 e2
  subst e1 e2
  exact ⟨_, _, hp'⟩
theorem qJR (nm : List UInt8) (n : Int) (hge : w.heap.size + 2 <= gu /\ w.heap.size + 2 <= mb /\ w.heap.size + 2 <= gp /\ w.heap.size + 2 <= mi) (h : AlQ w W gu mb gp mi ln labs its (some (nm, n)) none) (hits : its.length <= 90000) (hv : qJ w v [wd qH7]) :
  Calls Tryz.prog 73 #[.pointer (some ⟨gu, 0, none⟩), v] W fun r w' => r = .returned (.int .i64 0) /\ ∃ gp' mi', AlQ w w' gu mb gp' mi' ln labs (its ++ [qGA ln 4, numI ln 4 nm n]) none (some (gp, its.length + 1)) /\ (w.heap.size + 2 <= gp' /\ w.heap.size + 2 <= mi') /\ mi' ≠ mb := by
 refine qDw gu v 0 ⟨qH7.toArray⟩ [] [] w W (fun X => AlQ w X gu mb gp mi ln labs its (some (nm, n)) none) _ ?_ (fun A B h1 h2 => h1.go h2) (fun X hX => hX.bx.bel) ?_ ?_ (by obtain ⟨a, b, e, _⟩ := hv; exact ⟨_, _, _, e⟩)
 ·refine (qCD gu v _ W (hv.below h.bx.bel (Nat.le_refl _)) rfl).mono ?_
  rintro r w' ⟨rfl, hb⟩
  exact ⟨v, rfl, hv, h.go hb⟩
 ·intro X v2 hX hv2
  exact no_ops gu X v2 (hv2.below hX.bx.bel (Nat.le_refl _))
 ·intro X oa oc hX ho
  exact qEp gu oa oc X _ (pool_end w X gu mb gp mi ln labs its nm n hge hX hits)
theorem qJg (n : Int) (q : Option (List UInt8 × Int)) (old : Option (Nat × Nat)) (hA : qAL w) (hge : w.heap.size + 2 <= gu) (h : AlQ w W gu mb gp mi ln labs its q old) (hits : its.length <= 90000) (hn0 : 0 <= n) (hn1 : n <= 1000000) (hv : qJ w v [wd qLN, qEJ n]) :
  Calls Tryz.prog 73 #[.pointer (some ⟨gu, 0, none⟩), v] W fun r w' => r = .returned (.int .i64 0) /\ AlQ w w' gu mb gp mi ln labs (its ++ [numI ln 4 [] n]) q old := by
 have hw : n = wrap32 n := by unfold wrap32; omega
 refine qDw gu v 0 ⟨qLN.toArray⟩ [qEJ n] ([n].map fun n => ⟨⟨#[112]⟩, 0, ⟨#[]⟩, n⟩) w W (fun X => AlQ w X gu mb gp mi ln labs its q old) _ ?_ (fun A B h1 h2 => h1.go h2) (fun X hX => hX.bx.bel) ?_ ?_ (by obtain ⟨a, b, e, _⟩ := hv; exact ⟨_, _, _, e⟩)
 ·refine (qCD gu v _ W (hv.below h.bx.bel (Nat.le_refl _)) rfl).mono ?_
  rintro r w' ⟨rfl, hb⟩
  exact ⟨v, rfl, hv, h.go hb⟩
 ·intro X v2 hX hv2
  obtain ⟨nv, hu, _⟩ := hX.ur
  have hpc := qI8 (qEJ n) rfl
  refine (qBG gu v2 [qEJ n] ([n].map fun n => ⟨⟨#[112]⟩, 0, ⟨#[]⟩, n⟩) X (hv2.below hX.bx.bel (Nat.le_refl _)) (by simp) (by rw [hpc]; simp) ?_).mono ?_
  ·intro i hi u X2 hb2 hu2
   have hu3 : qJ X2 u [qEJ n] := by simpa [hpc] using hu2
   have hB3 : Below w.heap.size w X2 := hX.bx.bel.trans (hb2.mono hX.bx.bel.size)
   have := qDg gu u (qEJ n) ⟨#[]⟩ n (.inl ⟨rfl, rfl, hw⟩) X2 (KL.below hA.ex hB3) (hA.gl.below hB3 hA.gl.sz) hu3 (hu.go hb2).cell0 (by show regU 2 _ < 0; unfold regU; rw [if_neg (by decide)]; decide)
   simpa [Opd.V] using this
  ·rintro r w' ⟨⟨ov, rfl, hr⟩, hb⟩
   obtain ⟨oa, oc, hov⟩ := qG hr
   subst hov
   exact ⟨⟨oa, oc, rfl, OpsR.of_row hr⟩, hb⟩
 ·intro X oa oc hX ho
  obtain ⟨nv, hu, _⟩ := hX.ur
  have := qED gu (gu + 1) _ nv _ _ _ _ ln its [n] oa oc X hu (by simp) (by simp; omega) ho (by intro m hm; obtain rfl := List.mem_singleton.1 hm; unfold qEb; simp; omega)
  rw [List.length_map]
  refine this.mono ?_
  rintro r w' ⟨rfl, hu', hf, hk⟩
  refine ⟨rfl, hX.keep hk hf hge (fun nv' hn => ?_)⟩
  obtain rfl := hn.same hu
  exact hu'
theorem read_lab (nm : List UInt8) (q : Option (List UInt8 × Int)) (old : Option (Nat × Nat)) (hlo : nm.length <= maxLen /\ regU 1 nm < 0 /\ Xp.qO nm = true) (hA : qAL w) (hge : w.heap.size + 2 <= gu /\ w.heap.size + 2 <= mb) (hne : mi ≠ mb) (h : AlQ w W gu mb gp mi ln labs its q old) (hits : its.length <= 100000) (hll : labs.length <= 100000) (hfree : qP nm labs = none) (hv : qJ w v [wd nm, sg 58]) :
  Calls Tryz.prog 73 #[.pointer (some ⟨gu, 0, none⟩), v] W fun r w' => r = .returned (.int .i64 0) /\ AlQ w w' gu mb gp mi ln (labs ++ [(nm, its.length)]) its q old := by
 refine qHS gu v w W _ ?_ (by obtain ⟨a, b, e, _⟩ := hv; exact ⟨_, _, _, e⟩)
 exact qGH w W gu mb gp mi v ln labs its q old ⟨some nm, iNop⟩ [] rfl (fun n e => by injection e with e; subst e; exact hlo) hA hge hne h hits hll (fun n e => by injection e with e; subst e; exact hfree) hv
end
def EndK (W : World) (firsts : Nat -> Nat) (n : Nat) (i : It) : Prop :=
 qHu i /\ (1 <= i.align /\ i.align <= 16) /\ i.size <= 4 /\
 match i.gen with
 | .fill => True
 | .num nm add => (i.size = 1 \/ i.size = 2 \/ i.size = 4) /\ i.upTo = 1 /\ nm.length <= maxLen /\ -100000000000 <= add /\ add <= 100000000000
 | .plain _ _ _ _ => True
 | .lead _ _ _ _ q => i.size = 2 /\ i.upTo = 1 /\ SlotOk W firsts n q
theorem qLc {w0 w W' : World} {gu gp mb n : Nat} {nv pp : Value} {ln : Int} {labs : List (List UInt8 × Nat)} {firsts : Nat -> Nat} {its : List It} {code : List UInt8} {rs : List Re} (hbx : Bx w0 w) (hge : w0.heap.size + 2 <= gu) (hy : LY w W' gu gp mb n nv pp (.slice none 0 0) ln labs its) (hpl : PlR W' gp n (n + 1) (qY 0 its)) (hnv : w.ownsRow (gu + 1) 9 1 nv labs.length (qB7 labs)) (hi : max 1 4 < gu) (hn : n <= 3000) (hok : ∀ i, i ∈ its -> EndK w firsts n i)
  (hwr : qA2 ⟨labs, its, firsts⟩ (qY 0 its) 0 [] [] its = .ok (code, rs)) (hcl : code.length <= 100000 /\ rs.length <= 100000) (lbk : ∀ nm k, qP nm labs = some k -> k <= n) (lbs : ∀ j (h : j < labs.length), qP labs[j].1 labs = some labs[j].2 /\ labs[j].1.length <= maxLen) (ll : labs.length <= 100000) :
  Calls Tryz.prog 76 #[.pointer (some ⟨gu, 0, none⟩)] W' fun r w' => ∃ ca cl cc sa sl sc qa ql qc, r = .returned (.tuple #[.agg #[.slice ca cl cc, .slice sa sl sc, .slice qa ql qc], .agg #[.int .i64 0, .int .i64 0]]) /\ qBl w' (.slice ca cl cc) (.slice sa sl sc) (.slice qa ql qc) ⟨code, qCN ⟨labs, its, firsts⟩ (qY 0 its), rs⟩ /\ Bx w0 w' := by
 obtain rfl := hy.n
 obtain ⟨iv, l, u1, u2, u3, u4⟩ := hy.it
 have kp : ∀ {q : Nat} {c : Array Value} {t : TypeId}, w.heap[q]? = some (.cells c t (0, 0)) -> t ≠ 143 -> t ≠ 200 -> W'.heap[q]? = some (.cells c t (0, 0)) := fun {q c t} hq h1 h2 => hy.km.2 _ _ hq (by intro c' f e; injection e with _ e3; exact h1 e3) (by intro c' f e; injection e with _ e3; exact h2 e3)
 have hnv' : W'.ownsRow (gu + 1) 9 1 nv labs.length (qB7 labs) := by
  refine ⟨hnv.1, ?_⟩
  rcases hnv.2 with h5 | ⟨g, cap, cur, h5, h6, h7, h8⟩
  ·exact .inl h5
  ·exact .inr ⟨g, cap, cur, h5, h6, kp h7 (by decide) (by decide), h8⟩
 have hbd : ∀ k, 0 <= (qY 0 its).getD k 0 /\ (qY 0 its).getD k 0 <= 900000 := fun k => by
  by_cases hk : k <= its.length
  ·have := qCK its 0 k (Int.le_refl _) (fun x hx => (hok x hx).1) hk
   omega
  ·have : (qY 0 its).getD k 0 = 0 := by
    rw [List.getD_eq_getElem?_getD, List.getElem?_eq_none (by rw [qF4]; omega)]
    rfl
   omega
 let x : SU := ⟨gu, gp, mb, its.length, .slice none 0 0, nv, iv, pp, ln, labs, qY 0 its, firsts⟩
 have hs : S0 x W' := ⟨hpl, hy.lb, hy.la, hi, by show its.length <= 100000; omega, fun k => ⟨(hbd k).1, Int.le_trans (hbd k).2 (by decide)⟩, lbk⟩
 have hll : l.length = its.length := by rw [<- u3]; simp
 refine (qJ9 x (gu + 1) W' its l code rs hs u1 u2 u3 rfl (fun p hp => (hy.gen (u4 p hp)).shape.1) (fun i hi => (hok i hi).2.1) ?_ hwr hcl.1 hcl.2 hnv' lbs ll).mono ?_
 ·intro k hk rs1 rs2 b hrs hb
  have hki : k < its.length := by omega
  have hlk : l[k].1 = its[k] := by subst u3; simp
  have hokk := hok its[k] (List.getElem_mem _)
  have hstep := qET its 0 k hki
  have hb0 := hbd k
  have hsz : (qY 0 its).getD (k + 1) 0 - (qY 0 its).getD k 0 = its[k].size + (its[k].upTo - ((qY 0 its).getD k 0).tmod its[k].upTo).tmod its[k].upTo := by omega
  obtain ⟨g1, g2, g3, g4⟩ := hokk.1
  have hr2 : 0 <= (its[k].upTo - ((qY 0 its).getD k 0).tmod its[k].upTo).tmod its[k].upTo /\ (its[k].upTo - ((qY 0 its).getD k 0).tmod its[k].upTo).tmod its[k].upTo < its[k].upTo := by
   have ha : 0 <= ((qY 0 its).getD k 0).tmod its[k].upTo /\ ((qY 0 its).getD k 0).tmod its[k].upTo < its[k].upTo := ⟨Int.tmod_nonneg _ hb0.1, Int.tmod_lt_of_pos _ (by omega)⟩
   exact ⟨Int.tmod_nonneg _ (by omega), Int.tmod_lt_of_pos _ (by omega)⟩
  refine qKY x W' its l[k].1 l[k].2.1 l[k].2.2 _ _ rs1 rs2 b (hy.gen (u4 _ (List.getElem_mem (l := l) (n := k) hk))) ?_ hb0.1 (by show (qY 0 its).getD k 0 <= 1000000; omega) hrs hb
  rw [hlk]
  unfold ItOk
  have hlast := hokk.2.2.2
  cases hg : its[k].gen with
  | fill =>
    show 0 <= (qY 0 its).getD (k + 1) 0 - (qY 0 its).getD k 0 /\ (qY 0 its).getD (k + 1) 0 - (qY 0 its).getD k 0 <= 100000
    rw [hsz]
    constructor <;> omega
  | num nm add =>
    rw [hg] at hlast
    simp only at hlast ⊢
    exact ⟨hlast.1, hlast.2.2.1, by omega, by omega⟩
  | plain op n m imm => trivial
  | lead op n m imm q =>
    rw [hg] at hlast
    simp only at hlast ⊢
    obtain ⟨e1, e2, e3⟩ := hlast
    refine ⟨?_, ?_⟩
    ·rw [e2] at hr2
     show (qY 0 its).getD (k + 1) 0 - (qY 0 its).getD k 0 ≠ 6
     rw [hsz, e1, e2]
     omega
    ·cases q with
     | val nm add => exact e3
     | slot g i =>
       obtain ⟨o1, vv, mv, o2⟩ := e3
       exact ⟨o1, vv, mv, kp o2 (by decide) (by decide)⟩
 ·rintro r w' ⟨ca, cl, cc, sa, sl, sc, qa, ql, qc, rfl, h1, h2, h3, h4⟩
  have hx0 := kp hbx.x0 (by decide) (by decide)
  have hx1 := kp hbx.x1 (by decide) (by decide)
  have h4' : Fr gu W'.heap.size W' w' := h4
  have hB' : Below w0.heap.size w0 W' := hbx.bel.trans (hy.bl.mono (by omega))
  refine ⟨ca, cl, cc, sa, sl, sc, qa, ql, qc, rfl, ⟨h1, h2, h3⟩, ⟨hB'.trans ((h4'.lowd (Nat.le_of_lt (qC u1))).mono (by omega)), ?_, ?_⟩⟩
  ·rw [h4'.block _ (qC hx0) (by omega)]; exact hx0
  ·rw [h4'.block _ (qC hx1) (by omega)]; exact hx1
structure FinQ (w W : World) (gu mb : Nat) (labs : List (List UInt8 × Nat)) (firsts : Nat -> Nat) (its : List It) (ob : Ob) : Prop where
 good : ∀ i, i ∈ its -> qGy labs i
 ok : ∀ i, i ∈ its -> EndK W firsts its.length i
 pos : 0 < its.length
 n : its.length <= 3000
 lbk : ∀ nm k, qP nm labs = some k -> k <= its.length
 lbs : ∀ j (h : j < labs.length), qP labs[j].1 labs = some labs[j].2 /\ labs[j].1.length <= maxLen
 ll : labs.length <= 100000
 last : (qY 0 its).getD its.length 0 <= 8000
 short : (qAr ⟨labs, its, firsts⟩ (qY 0 its) 0 its).2 = false
 wr : qA2 ⟨labs, its, firsts⟩ (qY 0 its) 0 [] [] its = .ok (ob.code, ob.rels)
 sy : ob.syms = qCN ⟨labs, its, firsts⟩ (qY 0 its)
 cl : ob.code.length <= 100000 /\ ob.rels.length <= 100000
def RdyQ (w W' : World) (gu : Nat) (ob : Ob) : Prop :=
 ∃ w1 gp mb n nv pp ln labs firsts its, Bx w w1 /\ LY w1 W' gu gp mb n nv pp (.slice none 0 0) ln labs its /\ PlR W' gp n (n + 1) (qY 0 its) /\ w1.ownsRow (gu + 1) 9 1 nv labs.length (qB7 labs) /\ FinQ w w1 gu mb labs firsts its ob
theorem qIC (w W : World) (gu mb gp mi : Nat) (ln : Int) (labs : List (List UInt8 × Nat)) (firsts : Nat -> Nat) (its : List It) (q : Option (List UInt8 × Int)) (old : Option (Nat × Nat)) (ob : Ob) (hA : qAL w) (hge : w.heap.size + 2 <= gu) (hn : AlQ w W gu mb gp mi ln labs its q old) (hf : FinQ w W gu mb labs firsts its ob) :
  Calls Tryz.prog 75 #[.pointer (some ⟨gu, 0, none⟩)] W fun r w' => r = .returned (.int .i64 0) /\ RdyQ w w' gu ob := by
 have hsz := hA.isa.sz
 obtain ⟨nv, hu, hnv⟩ := hn.ur
 have hla := hA.isa.below hn.bx.bel hA.isa.sz
 refine (lay_one W gu mb nv _ _ none 0 0 ln labs firsts its hu hn.lb hla (by omega) (fun i hi => ⟨(hf.ok i hi).1, hf.good i hi⟩) hf.pos hf.n hf.lbk hf.last hf.short).mono ?_
 rintro r W' ⟨rfl, gp', _, hy, hp⟩
 exact ⟨rfl, W, gp', mb, _, nv, _, ln, labs, firsts, its, hn.bx, hy, hp, hnv, hf⟩
theorem qFB (w W' : World) (gu : Nat) (ob : Ob) (hA : qAL w) (hge : w.heap.size + 2 <= gu) (hr : RdyQ w W' gu ob) :
  Calls Tryz.prog 76 #[.pointer (some ⟨gu, 0, none⟩)] W' fun r w' => ∃ ca cl cc sa sl sc qa ql qc, r = .returned (.tuple #[.agg #[.slice ca cl cc, .slice sa sl sc, .slice qa ql qc], .agg #[.int .i64 0, .int .i64 0]]) /\ qBl w' (.slice ca cl cc) (.slice sa sl sc) (.slice qa ql qc) ob /\ Bx w w' := by
 have hsz := hA.isa.sz
 obtain ⟨w1, gp', mb', n, nv, pp, ln, labs, firsts, its, hbx, hy, hp, hnv, hf⟩ := hr
 have hnn := hy.n
 have := qLc (firsts := firsts) hbx hge hy hp hnv (by omega) (by rw [<- hnn]; exact hf.n) (fun i hi => by rw [<- hnn]; exact hf.ok i hi) hf.wr hf.cl (by rw [<- hnn]; exact hf.lbk) hf.lbs hf.ll
 refine this.mono ?_
 rintro r w' ⟨ca, cl, cc, sa, sl, sc, qa, ql, qc, rfl, ho, hb⟩
 rw [<- hf.sy] at ho
 exact ⟨ca, cl, cc, sa, sl, sc, qa, ql, qc, rfl, ho, hb⟩
end Go.Proofs.YtfmljailbebfgaaGreatDoor
