/- The walk of pllaw1.IsaTells: the statement that holds Get and Put against the document's. -/
import Derived.Test.YtnloooiimpdabaaDoorTells
namespace Go.Proofs.YtnloooiimpdabaaDoor
open Go.RowKit

theorem hidOf {p : Prop} (h : p) : Hid p := h

/-- A region of a text, by its number. -/
def regionOf (k : Nat) : Code → Option Code
  | .region i ops b => if i = k then some (.region i ops b) else none
  | .loop c => regionOf k c
  | .seq a b => match regionOf k a with
    | some c => some c
    | none => regionOf k b
  | .block _ c => regionOf k c
  | .scope c => regionOf k c
  | .cond _ a b => match regionOf k a with
    | some c => some c
    | none => regionOf k b
  | _ => none

/-- isa.Put, said of a world that is a letter. -/
theorem put_let (ad : Option Addr) (len cap : Nat) (bs : Nat → Int) (a size n : Int) (w : World) (hlen : len ≤ 281474976710656)
    (hrow : 0 < len → ∃ b off, ad = some ⟨b, off, none⟩ ∧ ∀ i, i < len → w.cell? ⟨b, off + i, none⟩ = some (.int .u8 (bs i)))
    (hs0 : 0 ≤ size) (hs1 : size ≤ 6) (ha0 : -1000000000 ≤ a) (ha1 : a ≤ 1000000000) :
    Calls Tryd.prog 21 #[.slice ad len cap, .int .i64 a, .int .i64 size, .int .i64 n] w fun e w' => ∃ g, e = .returned (.slice (some ⟨g, 0, none⟩) len len) ∧ Below w.heap.size w w' ∧ g < w'.heap.size ∧ ∀ i, i < len → w'.cell? ⟨g, i, none⟩ = some (.int .u8 (putAt bs a size n i)) := by
  refine (put_any ad len cap bs a size n w hlen hrow hs0 hs1 ha0 (by omega)).mono ?_
  rintro e w' ⟨he, hb, hz, hc⟩
  exact ⟨_, he, hb, hz, hc⟩

/-- The row of bytes lies in every later world. -/
theorem row_later {w x : World} {ad : Option Addr} {len : Nat} {bs : Nat → Int} (hB : Below w.heap.size w x)
    (h : 0 < len → ∃ b off, ad = some ⟨b, off, none⟩ ∧ ∀ i, i < len → w.cell? ⟨b, off + i, none⟩ = some (.int .u8 (bs i))) :
    0 < len → ∃ b off, ad = some ⟨b, off, none⟩ ∧ ∀ i, i < len → x.cell? ⟨b, off + i, none⟩ = some (.int .u8 (bs i)) := by
  intro h0
  obtain ⟨b, off, he, hc⟩ := h h0
  exact ⟨b, off, he, fun i hi => by rw [hB.cell (World.block_lt_of_cell? w _ (hc i hi))]; exact hc i hi⟩

/-- The sizes' list stays. -/
theorem keepSz {w x y : World} {G : Nat} (hb : Below x.heap.size x y)
    (h : G < x.heap.size ∧ x.cell? ⟨G, 0, none⟩ = some (.int .i64 1) ∧ x.cell? ⟨G, 1, none⟩ = some (.int .i64 2) ∧ x.cell? ⟨G, 2, none⟩ = some (.int .i64 4) ∧ Below w.heap.size w x) :
    G < y.heap.size ∧ y.cell? ⟨G, 0, none⟩ = some (.int .i64 1) ∧ y.cell? ⟨G, 1, none⟩ = some (.int .i64 2) ∧ y.cell? ⟨G, 2, none⟩ = some (.int .i64 4) ∧ Below w.heap.size w y := by
  obtain ⟨h0, h1, h2, h3, h5⟩ := h
  exact ⟨Nat.lt_of_lt_of_le h0 hb.size, by rw [hb.cell h0]; exact h1, by rw [hb.cell h0]; exact h2, by rw [hb.cell h0]; exact h3, h5.trans (hb.mono h5.size)⟩

theorem drewSz {w x : World} {G : Nat}
    (h : G < x.heap.size ∧ x.cell? ⟨G, 0, none⟩ = some (.int .i64 1) ∧ x.cell? ⟨G, 1, none⟩ = some (.int .i64 2) ∧ x.cell? ⟨G, 2, none⟩ = some (.int .i64 4) ∧ Below w.heap.size w x) :
    G < x.drew.heap.size ∧ x.drew.cell? ⟨G, 0, none⟩ = some (.int .i64 1) ∧ x.drew.cell? ⟨G, 1, none⟩ = some (.int .i64 2) ∧ x.drew.cell? ⟨G, 2, none⟩ = some (.int .i64 4) ∧ Below w.heap.size w x.drew :=
  ⟨h.1, h.2.1, h.2.2.1, h.2.2.2.1, h.2.2.2.2.drew⟩

theorem belSz {w x : World} {G : Nat}
    (h : G < x.heap.size ∧ x.cell? ⟨G, 0, none⟩ = some (.int .i64 1) ∧ x.cell? ⟨G, 1, none⟩ = some (.int .i64 2) ∧ x.cell? ⟨G, 2, none⟩ = some (.int .i64 4) ∧ Below w.heap.size w x) : Below w.heap.size w x := h.2.2.2.2

theorem cells_later {x y : World} {g len : Nat} {f : Nat → Int} (hb : Below x.heap.size x y) (hg : g < x.heap.size) (h : ∀ i, i < len → x.cell? ⟨g, i, none⟩ = some (.int .u8 (f i))) : ∀ i, i < len → y.cell? ⟨g, i, none⟩ = some (.int .u8 (f i)) :=
  fun i hi => by rw [hb.cell hg]; exact h i hi

/-- A stronger condition may be taken in the midst of a region. -/
theorem wpAnyH_switch {P : Program} {md : Region.Mode} {ops : Array Oper} {Q : Exit → Act → World → Prop} {S S' : World → Prop} (hSS : ∀ w, S' w → S w) :
    ∀ (fuel : Nat) (listed : Array Bool) (a : Act) (w : World), wpAnyH P md ops Q S' fuel listed a w → wpAnyH P md ops Q S fuel listed a w
  | 0, _, _, _, h => h
  | fuel + 1, _, _, _, h => ⟨h.1, fun i hi => wpOp_mono (fun a' w' h' => ⟨hSS _ h'.1, wpAnyH_switch hSS fuel _ a' w' h'.2⟩) (h.2 i hi)⟩

/-- Take number i first: what it yields lies in slot d. -/
theorem take_at {P : Program} {md : Region.Mode} {ops : Array Oper} {Q : Exit → Act → World → Prop} {S : World → Prop} (i d : Nat) {oi : Oper} {v : Value} {fuel : Nat} {listed : Array Bool} {T : Array Value} {D : List Deferred} {w : World} (hi : ops[i]? = some oi) (hd : oi.dst = some d)
    (hs : Region.noSelect ops = true) (hf : Region.free md ops listed i = true) (hr : (Region.ready md ops listed).contains i = true)
    (hQ : ∀ c a w, Q (.panic c) (a.put oi.dst v) w → Q (.panic c) a w) (hw : Region.wanted oi (yielded ops T) = true) (hy : ∀ w, S w → (execOp (Act.eval ⟨T, D⟩) oi).run P w = .ok (.value v) w) (hS : S w)
    (h : wpAnyH P md ops Q S fuel (listed.setIfInBounds i true) ⟨T.setIfInBounds d v, D⟩ w) : wpAnyH P md ops Q S (fuel + 1) listed ⟨T, D⟩ w := by
  refine wpAnyH_take hi hs hf hr hQ (Or.inl ⟨hw, hy⟩) hS ?_
  rw [hd]
  exact h

set_option maxRecDepth 100000 in
set_option maxHeartbeats 2000000 in
theorem region30F (c0 c1 c2 c3 c7 c8 c9 c10 c11 c12 c13 c14 c15 c16 c17 c18 c19 c20 c21 c22 c23 c24 c25 c26 c27 c28 c29 c30 c31 c32 c33 c35 c36 c37 c38 c39 c40 c41 c42 c43 c44 c45 c46 c47 c48 c49 c50 c51 c52 c53 c54 c55 c56 c57 c58 c59 c60 c61 c62 c63 c64 c65 c66 c67 c68 c69 c70 c71 c72 c73 c74 c75 c76 c77 c78 c79 c80 c81 c82 c83 c84 c85 c86 c87 c88 c89 c90 c91 c92 c93 c94 c95 c96 c97 c98 c99 c100 c101 c102 c103 c104 c105 c106 c107 c108 c109 c110 c111 c112 c113 c114 c115 c116 c117 c118 c119 c120 c121 c122 c123 c124 c125 c126 c127 c128 c129 c130 c131 c132 c133 c134 c135 c136 c137 c138 c139 c140 c141 c142 c143 c144 c145 c146 c147 c148 c149 c150 c151 c152 c153 c154 c155 c156 c157 c158 c159 c160 c161 c162 c163 c164 c165 c166 c167 c168 c169 c170 c171 c172 c173 c174 c175 c176 c177 c178 c179 c180 c181 c182 c183 c184 c185 c186 c187 c188 c189 c190 c191 c192 c193 c194 c195 c196 c197 c198 c199 c200 c201 c202 c203 c204 c205 c206 c207 c208 : Value) (ad : Option Addr) (len cap : Nat) (bs : Nat → Int) (a z sz : Int) (w wr : World) (G : Nat) (hlen : len ≤ 140737488351232) (hmax : len ≤ maxLen) (hbs : IsByte bs)
    (HROW : Hid (0 < len → ∃ b off, ad = some ⟨b, off, none⟩ ∧ ∀ i, i < len → w.cell? ⟨b, off + i, none⟩ = some (.int .u8 (bs i)))) (ha0 : -100 ≤ a) (ha1 : a ≤ 1000000) (hs0 : 0 ≤ sz) (hs1 : sz ≤ 4)
    (hS : Hid (G < wr.heap.size ∧ wr.cell? ⟨G, 0, none⟩ = some (.int .i64 1) ∧ wr.cell? ⟨G, 1, none⟩ = some (.int .i64 2) ∧ wr.cell? ⟨G, 2, none⟩ = some (.int .i64 4) ∧ Below w.heap.size w wr))
    (K : Act → World → Prop)
    (hK : ∀ (u184 u185 u186 u187 u188 u189 u190 u191 u192 u193 u194 u195 u196 u197 u198 u199 u200 u201 u202 u203 u204 u205 u206 u207 : Value) (w' : World), u207 = .bool false → (G < w'.heap.size ∧ w'.cell? ⟨G, 0, none⟩ = some (.int .i64 1) ∧ w'.cell? ⟨G, 1, none⟩ = some (.int .i64 2) ∧ w'.cell? ⟨G, 2, none⟩ = some (.int .i64 4) ∧ Below w.heap.size w w') → K ⟨#[c0, c1, c2, c3, (.slice ad len cap), (.int .i64 a), (.int .i64 z), c7, c8, c9, c10, c11, c12, c13, c14, c15, c16, c17, c18, c19, c20, c21, c22, c23, c24, c25, c26, c27, c28, c29, c30, c31, c32, c33, (.int .i64 sz), c35, c36, c37, c38, c39, c40, c41, c42, c43, c44, c45, c46, c47, c48, c49, c50, c51, c52, c53, c54, c55, c56, c57, c58, c59, c60, c61, c62, c63, c64, c65, c66, c67, c68, c69, c70, c71, c72, c73, c74, c75, c76, c77, c78, c79, c80, c81, c82, c83, c84, c85, c86, c87, c88, c89, c90, c91, c92, c93, c94, c95, c96, c97, c98, c99, c100, c101, c102, c103, c104, c105, c106, c107, c108, c109, c110, c111, c112, c113, c114, c115, c116, c117, c118, c119, c120, c121, c122, c123, c124, c125, c126, c127, c128, c129, c130, c131, c132, c133, c134, c135, c136, c137, c138, c139, c140, c141, c142, c143, c144, c145, c146, c147, c148, c149, c150, c151, c152, c153, c154, c155, c156, c157, c158, c159, c160, c161, c162, c163, c164, c165, c166, c167, c168, c169, c170, c171, c172, c173, c174, c175, c176, c177, c178, c179, c180, c181, c182, c183, u184, u185, u186, u187, u188, u189, u190, u191, u192, u193, u194, u195, u196, u197, u198, u199, u200, u201, u202, u203, u204, u205, u206, u207, c208], []⟩ w') :
    Code.wp Tryd.prog ((Tryd.f3.body.bind (regionOf 30)).getD .skip) (Exit.then K (fun _ _ _ => False)) ⟨#[c0, c1, c2, c3, (.slice ad len cap), (.int .i64 a), (.int .i64 z), c7, c8, c9, c10, c11, c12, c13, c14, c15, c16, c17, c18, c19, c20, c21, c22, c23, c24, c25, c26, c27, c28, c29, c30, c31, c32, c33, (.int .i64 sz), c35, c36, c37, c38, c39, c40, c41, c42, c43, c44, c45, c46, c47, c48, c49, c50, c51, c52, c53, c54, c55, c56, c57, c58, c59, c60, c61, c62, c63, c64, c65, c66, c67, c68, c69, c70, c71, c72, c73, c74, c75, c76, c77, c78, c79, c80, c81, c82, c83, c84, c85, c86, c87, c88, c89, c90, c91, c92, c93, c94, c95, c96, c97, c98, c99, c100, c101, c102, c103, c104, c105, c106, c107, c108, c109, c110, c111, c112, c113, c114, c115, c116, c117, c118, c119, c120, c121, c122, c123, c124, c125, c126, c127, c128, c129, c130, c131, c132, c133, c134, c135, c136, c137, c138, c139, c140, c141, c142, c143, c144, c145, c146, c147, c148, c149, c150, c151, c152, c153, c154, c155, c156, c157, c158, c159, c160, c161, c162, c163, c164, c165, c166, c167, c168, c169, c170, c171, c172, c173, c174, c175, c176, c177, c178, c179, c180, c181, c182, c183, c184, c185, c186, c187, c188, c189, c190, c191, c192, c193, c194, c195, c196, c197, c198, c199, c200, c201, c202, c203, c204, c205, c206, c207, c208], []⟩ wr := by
  have HK := hidOf hK
  clear hK
  conv => arg 2; whnf
  have HBr : Hid (Below w.heap.size w wr.drew) := hS.out.2.2.2.2.drew
  have hS0 := drewSz hS.out
  refine wp_region_held_drew (S := fun w' => G < w'.heap.size ∧ w'.cell? ⟨G, 0, none⟩ = some (.int .i64 1) ∧ w'.cell? ⟨G, 1, none⟩ = some (.int .i64 2) ∧ w'.cell? ⟨G, 2, none⟩ = some (.int .i64 4) ∧ Below w.heap.size w w') (by kernel_rfl) hS0 (fun hHeld => ?_)
  clear hS0
  refine take_at 0 184 (v := ?_) rfl rfl (by kernel_rfl) (by kernel_rfl) (by kernel_rfl) (fun _ _ _ h => h) rfl ?_ hHeld ?_
  rotate_left
  · intro w hSw
    go_simp
    try with_reducible rfl
  simp only [List.setIfInBounds_toArray, List.set_cons_zero, List.set_cons_succ]
  refine take_at 1 185 (v := ?_) rfl rfl (by kernel_rfl) (by kernel_rfl) (by kernel_rfl) (fun _ _ _ h => h) rfl ?_ hHeld ?_
  rotate_left
  · intro w hSw
    go_simp
    try with_reducible rfl
  simp only [List.setIfInBounds_toArray, List.set_cons_zero, List.set_cons_succ]
  refine take_at 2 186 (v := ?_) rfl rfl (by kernel_rfl) (by kernel_rfl) (by kernel_rfl) (fun _ _ _ h => h) rfl ?_ hHeld ?_
  rotate_left
  · intro w hSw
    go_simp
    try with_reducible rfl
  simp only [List.setIfInBounds_toArray, List.set_cons_zero, List.set_cons_succ]
  refine take_at 4 188 (v := ?_) rfl rfl (by kernel_rfl) (by kernel_rfl) (by kernel_rfl) (fun _ _ _ h => h) rfl ?_ hHeld ?_
  rotate_left
  · intro w hSw
    go_simp
    try with_reducible rfl
  simp only [List.setIfInBounds_toArray, List.set_cons_zero, List.set_cons_succ]
  refine take_at 5 189 (v := ?_) rfl rfl (by kernel_rfl) (by kernel_rfl) (by kernel_rfl) (fun _ _ _ h => h) rfl ?_ hHeld ?_
  rotate_left
  · intro w hSw
    go_simp
    try with_reducible rfl
  simp only [List.setIfInBounds_toArray, List.set_cons_zero, List.set_cons_succ]
  refine take_at 6 190 (v := ?_) rfl rfl (by kernel_rfl) (by kernel_rfl) (by kernel_rfl) (fun _ _ _ h => h) rfl ?_ hHeld ?_
  rotate_left
  · intro w hSw
    go_simp
    try with_reducible rfl
  simp only [List.setIfInBounds_toArray, List.set_cons_zero, List.set_cons_succ]
  refine wpAnyH_ready (rs := [3]) (by kernel_rfl) (by simp) ?_
  refine AllReadyH.cons rfl (fun K hK => ?_) AllReadyH.nil
  go_simp
  refine (get_any ad len cap bs a sz _ hbs hmax (row_later HBr.out HROW.out) (by omega) (by omega) (by omega) (by omega)).mono ?_
  rintro e w' ⟨rfl, rfl⟩
  refine hK.out _ _ hHeld (fun hHeld => ?_)
  clear hK K
  refine wpAnyH_ready (rs := [7]) (by kernel_rfl) (by simp) ?_
  refine AllReadyH.cons rfl (fun K hK => ?_) AllReadyH.nil
  go_simp
  refine (rGet_any ad len cap bs a sz _ hbs hmax (row_later HBr.out HROW.out) (by omega) (by omega) (by omega) (by omega)).mono ?_
  rintro e w' ⟨rfl, rfl⟩
  refine hK.out _ _ hHeld (fun hHeld => ?_)
  clear hK K
  refine take_at 8 192 (v := ?_) rfl rfl (by kernel_rfl) (by kernel_rfl) (by kernel_rfl) (fun _ _ _ h => h) rfl ?_ hHeld ?_
  rotate_left
  · intro w hSw
    go_simp
    try with_reducible rfl
  simp only [List.setIfInBounds_toArray, List.set_cons_zero, List.set_cons_succ]
  refine take_at 9 193 (v := ?_) rfl rfl (by kernel_rfl) (by kernel_rfl) (by kernel_rfl) (fun _ _ _ h => h) rfl ?_ hHeld ?_
  rotate_left
  · intro w hSw
    go_simp
    try with_reducible rfl
  simp only [List.setIfInBounds_toArray, List.set_cons_zero, List.set_cons_succ]
  refine take_at 10 194 (v := ?_) rfl rfl (by kernel_rfl) (by kernel_rfl) (by kernel_rfl) (fun _ _ _ h => h) rfl ?_ hHeld ?_
  rotate_left
  · intro w hSw
    go_simp
    try with_reducible rfl
  simp only [List.setIfInBounds_toArray, List.set_cons_zero, List.set_cons_succ]
  refine take_at 11 195 (v := ?_) rfl rfl (by kernel_rfl) (by kernel_rfl) (by kernel_rfl) (fun _ _ _ h => h) rfl ?_ hHeld ?_
  rotate_left
  · intro w hSw
    go_simp
    try with_reducible rfl
  simp only [List.setIfInBounds_toArray, List.set_cons_zero, List.set_cons_succ]
  refine take_at 12 196 (v := ?_) rfl rfl (by kernel_rfl) (by kernel_rfl) (by kernel_rfl) (fun _ _ _ h => h) rfl ?_ hHeld ?_
  rotate_left
  · intro w hSw
    go_simp
    try with_reducible rfl
  simp only [List.setIfInBounds_toArray, List.set_cons_zero, List.set_cons_succ]
  refine take_at 13 197 (v := ?_) rfl rfl (by kernel_rfl) (by kernel_rfl) (by kernel_rfl) (fun _ _ _ h => h) rfl ?_ hHeld ?_
  rotate_left
  · intro w hSw
    go_simp
    try with_reducible rfl
  simp only [List.setIfInBounds_toArray, List.set_cons_zero, List.set_cons_succ]
  refine take_at 16 200 (v := ?_) rfl rfl (by kernel_rfl) (by kernel_rfl) (by kernel_rfl) (fun _ _ _ h => h) rfl ?_ hHeld ?_
  rotate_left
  · intro w hSw
    go_simp
    try with_reducible rfl
  simp only [List.setIfInBounds_toArray, List.set_cons_zero, List.set_cons_succ]
  refine take_at 17 201 (v := ?_) rfl rfl (by kernel_rfl) (by kernel_rfl) (by kernel_rfl) (fun _ _ _ h => h) rfl ?_ hHeld ?_
  rotate_left
  · intro w hSw
    go_simp
    try with_reducible rfl
  simp only [List.setIfInBounds_toArray, List.set_cons_zero, List.set_cons_succ]
  refine take_at 18 202 (v := ?_) rfl rfl (by kernel_rfl) (by kernel_rfl) (by kernel_rfl) (fun _ _ _ h => h) rfl ?_ hHeld ?_
  rotate_left
  · intro w hSw
    go_simp
    try with_reducible rfl
  simp only [List.setIfInBounds_toArray, List.set_cons_zero, List.set_cons_succ]
  refine take_at 19 203 (v := ?_) rfl rfl (by kernel_rfl) (by kernel_rfl) (by kernel_rfl) (fun _ _ _ h => h) rfl ?_ hHeld ?_
  rotate_left
  · intro w hSw
    go_simp
    try with_reducible rfl
  simp only [List.setIfInBounds_toArray, List.set_cons_zero, List.set_cons_succ]
  refine wpAnyH_ready (rs := [14]) (by kernel_rfl) (by simp) ?_
  refine AllReadyH.cons rfl (fun K hK => ?_) AllReadyH.nil
  go_simp
  refine (put_let ad len cap bs a sz z _ (by omega) (row_later HBr.out HROW.out) (by omega) (by omega) (by omega) (by omega)).mono ?_
  rintro e w7 ⟨g7, rfl, hb7, hg7, hp7⟩
  have hHeld7 := keepSz hb7 hHeld
  refine hK.out _ _ hHeld7 (fun _ => ?_)
  clear hK K hHeld
  refine wpAnyH_switch (S' := fun w' => (G < w'.heap.size ∧ w'.cell? ⟨G, 0, none⟩ = some (.int .i64 1) ∧ w'.cell? ⟨G, 1, none⟩ = some (.int .i64 2) ∧ w'.cell? ⟨G, 2, none⟩ = some (.int .i64 4) ∧ Below w.heap.size w w') ∧ (convert 24 9 (.slice (some ⟨g7, 0, none⟩) len len)).run Tryd.prog w' = .ok (.string (strOf (putAt bs a sz z) len)) w') (fun _ h => h.1) _ _ _ _ ?_
  have hHeld : (G < w7.heap.size ∧ w7.cell? ⟨G, 0, none⟩ = some (.int .i64 1) ∧ w7.cell? ⟨G, 1, none⟩ = some (.int .i64 2) ∧ w7.cell? ⟨G, 2, none⟩ = some (.int .i64 4) ∧ Below w.heap.size w w7) ∧ (convert 24 9 (.slice (some ⟨g7, 0, none⟩) len len)).run Tryd.prog w7 = .ok (.string (strOf (putAt bs a sz z) len)) w7 := ⟨hHeld7, conv_any w7 g7 len len _ hp7⟩
  refine take_at 15 199 (v := ?_) rfl rfl (by kernel_rfl) (by kernel_rfl) (by kernel_rfl) (fun _ _ _ h => h) rfl ?_ hHeld ?_
  rotate_left
  · intro w hSw
    go_simp
    try with_reducible rfl
  simp only [List.setIfInBounds_toArray, List.set_cons_zero, List.set_cons_succ]
  refine wpAnyH_ready (rs := [20]) (by kernel_rfl) (by simp) ?_
  refine AllReadyH.cons rfl (fun K hK => ?_) AllReadyH.nil
  go_simp
  refine (rPut_any ad len cap bs a sz z _ hlen (row_later hHeld7.2.2.2.2 HROW.out) (by omega) (by omega) (by omega) (by omega)).mono ?_
  rintro e w8 ⟨g8, c8, rfl, hb8, hg8, _, hp8⟩
  have hHeld8 := keepSz hb8 hHeld7
  refine hK.out _ _ ⟨hHeld8, conv_any w8 g7 len len _ (cells_later hb8 hg7 hp7)⟩ (fun _ => ?_)
  clear hK K hHeld
  refine wpAnyH_switch (S' := fun w' => ((G < w'.heap.size ∧ w'.cell? ⟨G, 0, none⟩ = some (.int .i64 1) ∧ w'.cell? ⟨G, 1, none⟩ = some (.int .i64 2) ∧ w'.cell? ⟨G, 2, none⟩ = some (.int .i64 4) ∧ Below w.heap.size w w') ∧ (convert 24 9 (.slice (some ⟨g7, 0, none⟩) len len)).run Tryd.prog w' = .ok (.string (strOf (putAt bs a sz z) len)) w') ∧ (convert 24 9 (.slice (some ⟨g8, 0, none⟩) len c8)).run Tryd.prog w' = .ok (.string (strOf (putAt bs a sz z) len)) w') (fun _ h => h.1) _ _ _ _ ?_
  have hHeld : ((G < w8.heap.size ∧ w8.cell? ⟨G, 0, none⟩ = some (.int .i64 1) ∧ w8.cell? ⟨G, 1, none⟩ = some (.int .i64 2) ∧ w8.cell? ⟨G, 2, none⟩ = some (.int .i64 4) ∧ Below w.heap.size w w8) ∧ (convert 24 9 (.slice (some ⟨g7, 0, none⟩) len len)).run Tryd.prog w8 = .ok (.string (strOf (putAt bs a sz z) len)) w8) ∧ (convert 24 9 (.slice (some ⟨g8, 0, none⟩) len c8)).run Tryd.prog w8 = .ok (.string (strOf (putAt bs a sz z) len)) w8 := ⟨⟨hHeld8, conv_any w8 g7 len len _ (cells_later hb8 hg7 hp7)⟩, conv_any w8 g8 len c8 _ hp8⟩
  refine take_at 21 205 (v := ?_) rfl rfl (by kernel_rfl) (by kernel_rfl) (by kernel_rfl) (fun _ _ _ h => h) rfl ?_ hHeld ?_
  rotate_left
  · intro w hSw
    go_simp
    try with_reducible rfl
  simp only [List.setIfInBounds_toArray, List.set_cons_zero, List.set_cons_succ]
  refine take_at 22 206 (v := ?_) rfl rfl (by kernel_rfl) (by kernel_rfl) (by kernel_rfl) (fun _ _ _ h => h) rfl ?_ hHeld ?_
  rotate_left
  · intro w hSw
    go_simp
    try with_reducible rfl
  simp only [List.setIfInBounds_toArray, List.set_cons_zero, List.set_cons_succ]
  refine take_at 23 207 (v := ?_) rfl rfl (by kernel_rfl) (by kernel_rfl) (by kernel_rfl) (fun _ _ _ h => h) rfl ?_ hHeld ?_
  rotate_left
  · intro w hSw
    go_simp
    try with_reducible rfl
  simp only [List.setIfInBounds_toArray, List.set_cons_zero, List.set_cons_succ]
  refine wpAnyH_done (by kernel_rfl) ?_ _
  exact HK.out _ _ _ _ _ _ _ _ _ _ _ _ _ _ _ _ _ _ _ _ _ _ _ _ w8 rfl hHeld8

theorem region30 (c0 c1 c2 c3 c7 c8 c9 c10 c11 c12 c13 c14 c15 c16 c17 c18 c19 c20 c21 c22 c23 c24 c25 c26 c27 c28 c29 c30 c31 c32 c33 c35 c36 c37 c38 c39 c40 c41 c42 c43 c44 c45 c46 c47 c48 c49 c50 c51 c52 c53 c54 c55 c56 c57 c58 c59 c60 c61 c62 c63 c64 c65 c66 c67 c68 c69 c70 c71 c72 c73 c74 c75 c76 c77 c78 c79 c80 c81 c82 c83 c84 c85 c86 c87 c88 c89 c90 c91 c92 c93 c94 c95 c96 c97 c98 c99 c100 c101 c102 c103 c104 c105 c106 c107 c108 c109 c110 c111 c112 c113 c114 c115 c116 c117 c118 c119 c120 c121 c122 c123 c124 c125 c126 c127 c128 c129 c130 c131 c132 c133 c134 c135 c136 c137 c138 c139 c140 c141 c142 c143 c144 c145 c146 c147 c148 c149 c150 c151 c152 c153 c154 c155 c156 c157 c158 c159 c160 c161 c162 c163 c164 c165 c166 c167 c168 c169 c170 c171 c172 c173 c174 c175 c176 c177 c178 c179 c180 c181 c182 c183 c184 c185 c186 c187 c188 c189 c190 c191 c192 c193 c194 c195 c196 c197 c198 c199 c200 c201 c202 c203 c204 c205 c206 c207 c208 : Value) (ad : Option Addr) (len cap : Nat) (bs : Nat → Int) (a z sz : Int) (w wr : World) (G : Nat) (hlen : len ≤ 140737488351232) (hmax : len ≤ maxLen) (hbs : IsByte bs)
    (HROW : Hid (0 < len → ∃ b off, ad = some ⟨b, off, none⟩ ∧ ∀ i, i < len → w.cell? ⟨b, off + i, none⟩ = some (.int .u8 (bs i)))) (ha0 : -100 ≤ a) (ha1 : a ≤ 1000000) (hs0 : 0 ≤ sz) (hs1 : sz ≤ 4)
    (hS : Hid (G < wr.heap.size ∧ wr.cell? ⟨G, 0, none⟩ = some (.int .i64 1) ∧ wr.cell? ⟨G, 1, none⟩ = some (.int .i64 2) ∧ wr.cell? ⟨G, 2, none⟩ = some (.int .i64 4) ∧ Below w.heap.size w wr))
    (K : Act → World → Prop) (Q' : Exit → Act → World → Prop)
    (hK : ∀ (u184 u185 u186 u187 u188 u189 u190 u191 u192 u193 u194 u195 u196 u197 u198 u199 u200 u201 u202 u203 u204 u205 u206 u207 : Value) (w' : World), u207 = .bool false → (G < w'.heap.size ∧ w'.cell? ⟨G, 0, none⟩ = some (.int .i64 1) ∧ w'.cell? ⟨G, 1, none⟩ = some (.int .i64 2) ∧ w'.cell? ⟨G, 2, none⟩ = some (.int .i64 4) ∧ Below w.heap.size w w') → K ⟨#[c0, c1, c2, c3, (.slice ad len cap), (.int .i64 a), (.int .i64 z), c7, c8, c9, c10, c11, c12, c13, c14, c15, c16, c17, c18, c19, c20, c21, c22, c23, c24, c25, c26, c27, c28, c29, c30, c31, c32, c33, (.int .i64 sz), c35, c36, c37, c38, c39, c40, c41, c42, c43, c44, c45, c46, c47, c48, c49, c50, c51, c52, c53, c54, c55, c56, c57, c58, c59, c60, c61, c62, c63, c64, c65, c66, c67, c68, c69, c70, c71, c72, c73, c74, c75, c76, c77, c78, c79, c80, c81, c82, c83, c84, c85, c86, c87, c88, c89, c90, c91, c92, c93, c94, c95, c96, c97, c98, c99, c100, c101, c102, c103, c104, c105, c106, c107, c108, c109, c110, c111, c112, c113, c114, c115, c116, c117, c118, c119, c120, c121, c122, c123, c124, c125, c126, c127, c128, c129, c130, c131, c132, c133, c134, c135, c136, c137, c138, c139, c140, c141, c142, c143, c144, c145, c146, c147, c148, c149, c150, c151, c152, c153, c154, c155, c156, c157, c158, c159, c160, c161, c162, c163, c164, c165, c166, c167, c168, c169, c170, c171, c172, c173, c174, c175, c176, c177, c178, c179, c180, c181, c182, c183, u184, u185, u186, u187, u188, u189, u190, u191, u192, u193, u194, u195, u196, u197, u198, u199, u200, u201, u202, u203, u204, u205, u206, u207, c208], []⟩ w') :
    Code.wp Tryd.prog ((Tryd.f3.body.bind (regionOf 30)).getD .skip) (Exit.then K Q') ⟨#[c0, c1, c2, c3, (.slice ad len cap), (.int .i64 a), (.int .i64 z), c7, c8, c9, c10, c11, c12, c13, c14, c15, c16, c17, c18, c19, c20, c21, c22, c23, c24, c25, c26, c27, c28, c29, c30, c31, c32, c33, (.int .i64 sz), c35, c36, c37, c38, c39, c40, c41, c42, c43, c44, c45, c46, c47, c48, c49, c50, c51, c52, c53, c54, c55, c56, c57, c58, c59, c60, c61, c62, c63, c64, c65, c66, c67, c68, c69, c70, c71, c72, c73, c74, c75, c76, c77, c78, c79, c80, c81, c82, c83, c84, c85, c86, c87, c88, c89, c90, c91, c92, c93, c94, c95, c96, c97, c98, c99, c100, c101, c102, c103, c104, c105, c106, c107, c108, c109, c110, c111, c112, c113, c114, c115, c116, c117, c118, c119, c120, c121, c122, c123, c124, c125, c126, c127, c128, c129, c130, c131, c132, c133, c134, c135, c136, c137, c138, c139, c140, c141, c142, c143, c144, c145, c146, c147, c148, c149, c150, c151, c152, c153, c154, c155, c156, c157, c158, c159, c160, c161, c162, c163, c164, c165, c166, c167, c168, c169, c170, c171, c172, c173, c174, c175, c176, c177, c178, c179, c180, c181, c182, c183, c184, c185, c186, c187, c188, c189, c190, c191, c192, c193, c194, c195, c196, c197, c198, c199, c200, c201, c202, c203, c204, c205, c206, c207, c208], []⟩ wr := by
  refine wp_mono (region30F c0 c1 c2 c3 c7 c8 c9 c10 c11 c12 c13 c14 c15 c16 c17 c18 c19 c20 c21 c22 c23 c24 c25 c26 c27 c28 c29 c30 c31 c32 c33 c35 c36 c37 c38 c39 c40 c41 c42 c43 c44 c45 c46 c47 c48 c49 c50 c51 c52 c53 c54 c55 c56 c57 c58 c59 c60 c61 c62 c63 c64 c65 c66 c67 c68 c69 c70 c71 c72 c73 c74 c75 c76 c77 c78 c79 c80 c81 c82 c83 c84 c85 c86 c87 c88 c89 c90 c91 c92 c93 c94 c95 c96 c97 c98 c99 c100 c101 c102 c103 c104 c105 c106 c107 c108 c109 c110 c111 c112 c113 c114 c115 c116 c117 c118 c119 c120 c121 c122 c123 c124 c125 c126 c127 c128 c129 c130 c131 c132 c133 c134 c135 c136 c137 c138 c139 c140 c141 c142 c143 c144 c145 c146 c147 c148 c149 c150 c151 c152 c153 c154 c155 c156 c157 c158 c159 c160 c161 c162 c163 c164 c165 c166 c167 c168 c169 c170 c171 c172 c173 c174 c175 c176 c177 c178 c179 c180 c181 c182 c183 c184 c185 c186 c187 c188 c189 c190 c191 c192 c193 c194 c195 c196 c197 c198 c199 c200 c201 c202 c203 c204 c205 c206 c207 c208 ad len cap bs a z sz w wr G hlen hmax hbs HROW ha0 ha1 hs0 hs1 hS K hK) ?_
  intro e a' w' h
  cases e with
  | normal => exact h
  | exit id => exact h.elim
  | goto l => exact h.elim
  | ret => exact h.elim
  | panic ch => exact h.elim
  | outgrown => exact h.elim

end Go.Proofs.YtnloooiimpdabaaDoor
