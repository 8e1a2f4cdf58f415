/-
  The ways of the switch of tallyref's ReadCircuit, each by itself: a layer, a gate.
-/
import Derived.Test.YtnnnlalhhhhaeaaDoorRefRg
namespace Go.Proofs.YtnnnlalhhhhaeaaDoor
open Go.RowKit Go.PlainAid
set_option linter.unusedVariables false
attribute [local go_sem ↓] Go.wp_at_zero Go.wp_at_succ

set_option maxHeartbeats 20000000 in
set_option maxRecDepth 1000000 in
theorem sw_layer {cb wb wcp k nc pk t : Nat} {na : Option Addr} {W0 wr : World} {c : CQ} {v : Value} {ps : List (LQ × Value)} {P0 : ByteArray} {okb : Bool} {Y : CQ → Prop} {NO : Prop} {Q : Exit → Act → World → Prop} {c0 c1 c2 c3 c4 c5 c6 c12 c14 c15 c16 c17 c18 c19 c20 c21 c22 c23 c24 c25 c26 c27 c28 c29 c30 c31 c32 c33 c34 c35 c36 c37 c38 c39 c40 c41 c42 c43 c44 c45 c46 c47 c48 c49 c50 c51 c52 c53 c54 c55 c56 c57 c58 c59 c60 c61 c62 c63 c64 c65 c66 c67 c68 c69 c70 c71 c72 c73 c74 c75 c76 c77 c78 c79 c80 c81 c82 c83 c84 c85 c86 c87 c88 c89 c90 c91 c92 c93 c94 c95 c96 c97 c98 c99 c100 c101 c102 c103 c104 c105 c106 c107 c108 c109 c110 c111 c112 c113 c114 c115 c116 c117 c118 c119 c120 c121 c122 c123 c124 c125 c126 c127 c128 c129 c130 c131 c132 c133 c134 c135 c136 c137 c138 c139 c140 c141 c142 c143 c144 c145 c146 c147 c148 c149 c150 c151 c152 c153 c154 c155 c156 c157 c158 c159 c160 c161 c162 c163 c164 c165 c166 c167 c168 c169 c170 c171 c172 c173 c174 c175 c176 c177 c178 c179 c180 c181 c182 : Value}
    (hPW : PS cb wr cb (cb + 1) c v ps) (hBW : Below cb W0 wr) (cP : wr.cell? ⟨wb, 0, none⟩ = some (.string P0)) {nb vc : Nat} {va : Option Addr} {x : Int} (s1 : (P0.toList == [105, 110, 112, 117, 116, 115]) = false) (s2 : (P0.toList == [108, 97, 121, 101, 114]) = true) (e1 : (0 : Int) < (t : Int)) (hk : k = 1) (hna : na = some ⟨nb, 0, none⟩) (cn : wr.cell? ⟨nb, 0, none⟩ = some (.int .i64 x)) (hv : v = .slice va pk vc) (hpk : ps.length = pk) (pk5 : pk ≤ 5000) (hy : okb = true → Y ⟨c.log, c.layers ++ [⟨x, []⟩]⟩) (hno : okb = false → NO)
    (hQ : ∀ (u14 u85 u86 u87 u88 u89 u90 u91 u92 u93 u94 u95 u96 u97 u98 u99 u100 u101 u102 u103 u104 u105 u106 u107 u108 u109 u110 u111 u112 u113 u114 u115 u116 u117 u118 u119 u120 u121 u122 u123 u124 u125 u126 u127 u128 u129 u130 u131 u132 u133 u134 u135 u136 u137 u138 u139 u140 u141 u142 u143 u144 u145 u146 u147 u148 u149 u150 u151 u152 u153 u154 u155 u156 u157 u158 u159 u160 u161 u162 u163 u164 u165 u166 u167 u168 u169 u170 : Value) (okf : Bool) (c' : CQ) (v' : Value) (ps' : List (LQ × Value)) (w7 : World), PS cb w7 cb (cb + 1) c' v' ps' → Below cb W0 w7 → (okf = true → Y c') → (okf = false → NO) → Q .normal ⟨#[c0, c1, c2, c3, c4, c5, c6, .pointer (some ⟨cb, 0, none⟩), .int .i64 (t : Int), .slice (some ⟨wb, 0, none⟩) (k + 1) wcp, .slice na k nc, .bool okf, c12, .int .i64 (pk : Int), u14, c15, c16, c17, c18, c19, c20, c21, c22, c23, c24, c25, c26, c27, c28, c29, c30, c31, c32, c33, c34, c35, c36, c37, c38, c39, c40, c41, c42, c43, c44, c45, c46, c47, c48, c49, c50, c51, c52, c53, c54, c55, c56, c57, c58, c59, c60, c61, c62, c63, c64, c65, c66, c67, c68, c69, c70, c71, c72, c73, c74, c75, c76, c77, c78, c79, c80, c81, c82, c83, c84, u85, u86, u87, u88, u89, u90, u91, u92, u93, u94, u95, u96, u97, u98, u99, u100, u101, u102, u103, u104, u105, u106, u107, u108, u109, u110, u111, u112, u113, u114, u115, u116, u117, u118, u119, u120, u121, u122, u123, u124, u125, u126, u127, u128, u129, u130, u131, u132, u133, u134, u135, u136, u137, u138, u139, u140, u141, u142, u143, u144, u145, u146, u147, u148, u149, u150, u151, u152, u153, u154, u155, u156, u157, u158, u159, u160, u161, u162, u163, u164, u165, u166, u167, u168, u169, u170, c171, c172, c173, c174, c175, c176, c177, c178, c179, c180, c181, c182], []⟩ w7) :
    Code.wp Tryd.prog swCode Q ⟨#[c0, c1, c2, c3, c4, c5, c6, .pointer (some ⟨cb, 0, none⟩), .int .i64 (t : Int), .slice (some ⟨wb, 0, none⟩) (k + 1) wcp, .slice na k nc, .bool okb, c12, .int .i64 (pk : Int), c14, c15, c16, c17, c18, c19, c20, c21, c22, c23, c24, c25, c26, c27, c28, c29, c30, c31, c32, c33, c34, c35, c36, c37, c38, c39, c40, c41, c42, c43, c44, c45, c46, c47, c48, c49, c50, c51, c52, c53, c54, c55, c56, c57, c58, c59, c60, c61, c62, c63, c64, c65, c66, c67, c68, c69, c70, c71, c72, c73, c74, c75, c76, c77, c78, c79, c80, c81, c82, c83, c84, c85, c86, c87, c88, c89, c90, c91, c92, c93, c94, c95, c96, c97, c98, c99, c100, c101, c102, c103, c104, c105, c106, c107, c108, c109, c110, c111, c112, c113, c114, c115, c116, c117, c118, c119, c120, c121, c122, c123, c124, c125, c126, c127, c128, c129, c130, c131, c132, c133, c134, c135, c136, c137, c138, c139, c140, c141, c142, c143, c144, c145, c146, c147, c148, c149, c150, c151, c152, c153, c154, c155, c156, c157, c158, c159, c160, c161, c162, c163, c164, c165, c166, c167, c168, c169, c170, c171, c172, c173, c174, c175, c176, c177, c178, c179, c180, c181, c182], []⟩ wr := by
  conv => arg 2; whnf
  subst hk
  subst hna
  subst hv
  have b1 := hPW.box1
  have f1 := hPW.fr1
  have HPW := hid hPW
  have HBLW := hid hBW
  have HPK := hid hpk
  obtain ⟨iy, zy, hy1, hy2, hy3, hy4, hy5⟩ := infoY_parts
  have HY0 := hid (And.intro hy1 (And.intro hy2 (And.intro hy3 (And.intro hy4 hy5))))
  clear hy1 hy2 hy3 hy4 hy5
  have hle := HPW.out.le
  have HO : Hid (wr.ownsRow (cb + 1) 43 2 (.slice va pk vc) pk (lcells ps)) := hid (by have := HPW.out.own.own; rw [HPK.out] at this; exact this)
  have hal := (Below.refl wr.heap.size wr).alloc (Nat.le_refl _) (.cells #[.int .i64 x, .slice none 0 0] 43)
  have HPA := hid (HPW.out.kept hal)
  have HBA := hid (HBLW.out.trans (hal.mono (Nat.le_trans HPW.out.ge (Nat.le_of_lt (Nat.lt_of_lt_of_le HPW.out.lt HPW.out.le)))))
  have HLO : Hid (∀ k, (Value.slice va pk vc).ownBlock = some k → (cb + 1) ≤ k) := hid fun k hk => (HO.out.lt k hk).1
  clear hal
  have cbl : cb < wr.heap.size := Nat.lt_of_lt_of_le HPW.out.lt HPW.out.le
  have b1' : ∀ o, (wr.alloc o).cell? ⟨cb, 1, none⟩ = some (.slice va pk vc) := fun o => by rw [World.cell?_alloc_old _ _ _ (Nat.ne_of_lt cbl)]; exact b1
  have HY := hid hy
  have HNO := hid hno
  have HQ := hid hQ
  clear hPW hBW hQ hy hno hpk
  go_upto_region 24 with fail
  refine wp_region_noPanic ?_
  go_region_law (refine step_append_lies _ rfl (.tmp 118) (.tmp 123) 22 rfl (cb + 1) 43 iy zy 2 32 Tryd.underlying22 HY0.out.1 HY0.out.2.1 HY0.out.2.2.1 HY0.out.2.2.2.1 HY0.out.2.2.2.2 (by decide) (.slice va pk vc) pk (lcells ps) (by simp [Act.eval]) (World.ownsRow.alloc HO.out _) ⟨wr.heap.size, 0, none⟩ 1 1 [.int .i64 x, .slice none 0 0] (by simp [Act.eval]) rfl (news_all wr [.int .i64 x, .slice none 0 0] _) (one_layer x) (by omega) (by unfold maxLen; omega) (by omega) (by simp; omega) (wr.heap.size + 1) (by simp) ?_; intro g6 c6 w6 hown6 hgrow6 hat6 hlt6; have hl6 := grown_low (p := 1) (grown_dry hgrow6) HLO.out HPA.out.lt HPA.out.le; have q1 : w6.cell? ⟨cb, 1, none⟩ = some (.slice va pk vc) := hl6.1.trans HPA.out.box1; have q2 : w6.frozen? ⟨cb, 1, none⟩ = false := hl6.2.trans HPA.out.fr1; clear hl6)
  all_goals (clear b1')
  all_goals
    have hown7 : w6.ownsRow (cb + 1) 43 2 (.slice (some ⟨g6, 0, none⟩) (ps.length + 1) c6) (ps.length + 1) (lcells ps ++ [.int .i64 x, .slice none 0 0]) := by rw [HPK.out]; exact hown6
    have hP7 := HPA.out.layer hown7 (grown_dry hgrow6) (by rcases hat6 with e | e; exact .inl e; exact .inr (by rw [e]; simp))
    rw [HPK.out] at hP7
    have HP7 := hid hP7
    have HB7 := hid ((HBA.out.grown (grown_dry hgrow6) (by simp; have := HPW.out.ge; have := HPW.out.lt; omega) (fun k hk => Nat.le_trans (Nat.le_trans HPW.out.ge (Nat.le_of_lt HPW.out.lt)) (HLO.out k hk))).setCell (show cb ≤ (⟨cb, 1, none⟩ : Addr).block from Nat.le_refl _) (.slice (some ⟨g6, 0, none⟩) (pk + 1) c6))
    exact HQ.out _ _ _ _ _ _ _ _ _ _ _ _ _ _ _ _ _ _ _ _ _ _ _ _ _ _ _ _ _ _ _ _ _ _ _ _ _ _ _ _ _ _ _ _ _ _ _ _ _ _ _ _ _ _ _ _ _ _ _ _ _ _ _ _ _ _ _ _ _ _ _ _ _ _ _ _ _ _ _ _ _ _ _ _ _ _ _ okb _ _ _ _ HP7.out HB7.out HY.out HNO.out

set_option maxHeartbeats 20000000 in
set_option maxRecDepth 1000000 in
theorem sw_gateTrue {cb wb wcp k nc pk t : Nat} {na : Option Addr} {W0 wr : World} {c : CQ} {v : Value} {ps : List (LQ × Value)} {P0 : ByteArray} {okb : Bool} {Y : CQ → Prop} {NO : Prop} {Q : Exit → Act → World → Prop} {c0 c1 c2 c3 c4 c5 c6 c12 c14 c15 c16 c17 c18 c19 c20 c21 c22 c23 c24 c25 c26 c27 c28 c29 c30 c31 c32 c33 c34 c35 c36 c37 c38 c39 c40 c41 c42 c43 c44 c45 c46 c47 c48 c49 c50 c51 c52 c53 c54 c55 c56 c57 c58 c59 c60 c61 c62 c63 c64 c65 c66 c67 c68 c69 c70 c71 c72 c73 c74 c75 c76 c77 c78 c79 c80 c81 c82 c83 c84 c85 c86 c87 c88 c89 c90 c91 c92 c93 c94 c95 c96 c97 c98 c99 c100 c101 c102 c103 c104 c105 c106 c107 c108 c109 c110 c111 c112 c113 c114 c115 c116 c117 c118 c119 c120 c121 c122 c123 c124 c125 c126 c127 c128 c129 c130 c131 c132 c133 c134 c135 c136 c137 c138 c139 c140 c141 c142 c143 c144 c145 c146 c147 c148 c149 c150 c151 c152 c153 c154 c155 c156 c157 c158 c159 c160 c161 c162 c163 c164 c165 c166 c167 c168 c169 c170 c171 c172 c173 c174 c175 c176 c177 c178 c179 c180 c181 c182 : Value}
    (hPW : PS cb wr cb (cb + 1) c v ps) (hBW : Below cb W0 wr) (cP : wr.cell? ⟨wb, 0, none⟩ = some (.string P0)) {nb vb vc qn gl gvc : Nat} {gva : Option Addr} {qs : List (LQ × Value)} {l : LQ} {x y : Int} (s1 : (P0.toList == [105, 110, 112, 117, 116, 115]) = false) (s2 : (P0.toList == [108, 97, 121, 101, 114]) = false) (s3 : (P0.toList == [97, 100, 100]) = false) (s4 : (P0.toList == [109, 117, 108]) = true) (hk : k = 2) (hna : na = some ⟨nb, 0, none⟩) (cn : wr.cell? ⟨nb, 0, none⟩ = some (.int .i64 x)) (cm : wr.cell? ⟨nb, 1, none⟩ = some (.int .i64 y)) (hv : v = .slice (some ⟨vb, 0, none⟩) (qn + 1) vc) (hpq : pk = qn + 1) (hps : ps = qs ++ [(l, .slice gva gl gvc)]) (hq : qs.length = qn) (qn5 : qn ≤ 5000) (hgl : l.gates.length = gl) (gl5 : gl ≤ 5000) (cg : wr.cell? ⟨vb, qn * 2 + 1, none⟩ = some (.slice gva gl gvc)) (fg : wr.frozen? ⟨vb, qn * 2 + 1, none⟩ = false) (hap : (Value.slice gva gl gvc).ownBlock ≠ some vb) (hgo : wr.ownsRow (cb + 1) 46 3 (.slice gva gl gvc) gl (gcells l.gates)) (hvb1 : cb + 1 ≤ vb) (hvb2 : vb < wr.heap.size) (hy : okb = true → Y ⟨c.log, gateTo c.layers ⟨true, x, y⟩⟩) (hno : okb = false → NO)
    (hQ : ∀ (u14 u85 u86 u87 u88 u89 u90 u91 u92 u93 u94 u95 u96 u97 u98 u99 u100 u101 u102 u103 u104 u105 u106 u107 u108 u109 u110 u111 u112 u113 u114 u115 u116 u117 u118 u119 u120 u121 u122 u123 u124 u125 u126 u127 u128 u129 u130 u131 u132 u133 u134 u135 u136 u137 u138 u139 u140 u141 u142 u143 u144 u145 u146 u147 u148 u149 u150 u151 u152 u153 u154 u155 u156 u157 u158 u159 u160 u161 u162 u163 u164 u165 u166 u167 u168 u169 u170 : Value) (okf : Bool) (c' : CQ) (v' : Value) (ps' : List (LQ × Value)) (w7 : World), PS cb w7 cb (cb + 1) c' v' ps' → Below cb W0 w7 → (okf = true → Y c') → (okf = false → NO) → Q .normal ⟨#[c0, c1, c2, c3, c4, c5, c6, .pointer (some ⟨cb, 0, none⟩), .int .i64 (t : Int), .slice (some ⟨wb, 0, none⟩) (k + 1) wcp, .slice na k nc, .bool okf, c12, .int .i64 (pk : Int), u14, c15, c16, c17, c18, c19, c20, c21, c22, c23, c24, c25, c26, c27, c28, c29, c30, c31, c32, c33, c34, c35, c36, c37, c38, c39, c40, c41, c42, c43, c44, c45, c46, c47, c48, c49, c50, c51, c52, c53, c54, c55, c56, c57, c58, c59, c60, c61, c62, c63, c64, c65, c66, c67, c68, c69, c70, c71, c72, c73, c74, c75, c76, c77, c78, c79, c80, c81, c82, c83, c84, u85, u86, u87, u88, u89, u90, u91, u92, u93, u94, u95, u96, u97, u98, u99, u100, u101, u102, u103, u104, u105, u106, u107, u108, u109, u110, u111, u112, u113, u114, u115, u116, u117, u118, u119, u120, u121, u122, u123, u124, u125, u126, u127, u128, u129, u130, u131, u132, u133, u134, u135, u136, u137, u138, u139, u140, u141, u142, u143, u144, u145, u146, u147, u148, u149, u150, u151, u152, u153, u154, u155, u156, u157, u158, u159, u160, u161, u162, u163, u164, u165, u166, u167, u168, u169, u170, c171, c172, c173, c174, c175, c176, c177, c178, c179, c180, c181, c182], []⟩ w7) :
    Code.wp Tryd.prog swCode Q ⟨#[c0, c1, c2, c3, c4, c5, c6, .pointer (some ⟨cb, 0, none⟩), .int .i64 (t : Int), .slice (some ⟨wb, 0, none⟩) (k + 1) wcp, .slice na k nc, .bool okb, c12, .int .i64 (pk : Int), c14, c15, c16, c17, c18, c19, c20, c21, c22, c23, c24, c25, c26, c27, c28, c29, c30, c31, c32, c33, c34, c35, c36, c37, c38, c39, c40, c41, c42, c43, c44, c45, c46, c47, c48, c49, c50, c51, c52, c53, c54, c55, c56, c57, c58, c59, c60, c61, c62, c63, c64, c65, c66, c67, c68, c69, c70, c71, c72, c73, c74, c75, c76, c77, c78, c79, c80, c81, c82, c83, c84, c85, c86, c87, c88, c89, c90, c91, c92, c93, c94, c95, c96, c97, c98, c99, c100, c101, c102, c103, c104, c105, c106, c107, c108, c109, c110, c111, c112, c113, c114, c115, c116, c117, c118, c119, c120, c121, c122, c123, c124, c125, c126, c127, c128, c129, c130, c131, c132, c133, c134, c135, c136, c137, c138, c139, c140, c141, c142, c143, c144, c145, c146, c147, c148, c149, c150, c151, c152, c153, c154, c155, c156, c157, c158, c159, c160, c161, c162, c163, c164, c165, c166, c167, c168, c169, c170, c171, c172, c173, c174, c175, c176, c177, c178, c179, c180, c181, c182], []⟩ wr := by
  conv => arg 2; whnf
  subst hk
  subst hna
  subst hv
  subst hpq
  have b1 := hPW.box1
  have HPW := hid hPW
  have HBLW := hid hBW
  have HPS := hid hps
  have HQN := hid hq
  have HGL := hid hgl
  have HAP := hid hap
  have HGO := hid hgo
  have HY := hid hy
  have HNO := hid hno
  have HQ := hid hQ
  have e1 : (0 : Int) < ((qn + 1 : Nat) : Int) := by omega
  have e2 : ((2 : Nat) : Int) = 2 := rfl
  have qn0 : (0 : Int) ≤ (qn : Int) := by omega
  have qn1 : (qn : Int) < (qn : Int) + 1 := by omega
  have wq : IntKind.i64.wrap (qn : Int) = (qn : Int) := IntWalk.i64_in _ (by omega)
  clear hPW hBW hQ hy hno hps hq hgl hap hgo
  go_upto_region 27 with fail
  refine gate_region HPW.out HBLW.out HPS.out HQN.out HGL.out gl5 cg fg HAP.out HGO.out hvb1 hvb2 cn cm cP s4 ?_
  intro _ _ _ _ _ _ _ _ _ _ _ _ _ _ _ _ _ _ _ _ w7 hP7 hB7
  obtain ⟨v', ps', hP7⟩ := hP7
  exact HQ.out _ _ _ _ _ _ _ _ _ _ _ _ _ _ _ _ _ _ _ _ _ _ _ _ _ _ _ _ _ _ _ _ _ _ _ _ _ _ _ _ _ _ _ _ _ _ _ _ _ _ _ _ _ _ _ _ _ _ _ _ _ _ _ _ _ _ _ _ _ _ _ _ _ _ _ _ _ _ _ _ _ _ _ _ _ _ _ okb _ _ _ _ hP7 hB7 HY.out HNO.out

set_option maxHeartbeats 20000000 in
set_option maxRecDepth 1000000 in
theorem sw_gateFalse {cb wb wcp k nc pk t : Nat} {na : Option Addr} {W0 wr : World} {c : CQ} {v : Value} {ps : List (LQ × Value)} {P0 : ByteArray} {okb : Bool} {Y : CQ → Prop} {NO : Prop} {Q : Exit → Act → World → Prop} {c0 c1 c2 c3 c4 c5 c6 c12 c14 c15 c16 c17 c18 c19 c20 c21 c22 c23 c24 c25 c26 c27 c28 c29 c30 c31 c32 c33 c34 c35 c36 c37 c38 c39 c40 c41 c42 c43 c44 c45 c46 c47 c48 c49 c50 c51 c52 c53 c54 c55 c56 c57 c58 c59 c60 c61 c62 c63 c64 c65 c66 c67 c68 c69 c70 c71 c72 c73 c74 c75 c76 c77 c78 c79 c80 c81 c82 c83 c84 c85 c86 c87 c88 c89 c90 c91 c92 c93 c94 c95 c96 c97 c98 c99 c100 c101 c102 c103 c104 c105 c106 c107 c108 c109 c110 c111 c112 c113 c114 c115 c116 c117 c118 c119 c120 c121 c122 c123 c124 c125 c126 c127 c128 c129 c130 c131 c132 c133 c134 c135 c136 c137 c138 c139 c140 c141 c142 c143 c144 c145 c146 c147 c148 c149 c150 c151 c152 c153 c154 c155 c156 c157 c158 c159 c160 c161 c162 c163 c164 c165 c166 c167 c168 c169 c170 c171 c172 c173 c174 c175 c176 c177 c178 c179 c180 c181 c182 : Value}
    (hPW : PS cb wr cb (cb + 1) c v ps) (hBW : Below cb W0 wr) (cP : wr.cell? ⟨wb, 0, none⟩ = some (.string P0)) {nb vb vc qn gl gvc : Nat} {gva : Option Addr} {qs : List (LQ × Value)} {l : LQ} {x y : Int} (s1 : (P0.toList == [105, 110, 112, 117, 116, 115]) = false) (s2 : (P0.toList == [108, 97, 121, 101, 114]) = false) (s3 : (P0.toList == [97, 100, 100]) = true) (s4 : (P0.toList == [109, 117, 108]) = false) (hk : k = 2) (hna : na = some ⟨nb, 0, none⟩) (cn : wr.cell? ⟨nb, 0, none⟩ = some (.int .i64 x)) (cm : wr.cell? ⟨nb, 1, none⟩ = some (.int .i64 y)) (hv : v = .slice (some ⟨vb, 0, none⟩) (qn + 1) vc) (hpq : pk = qn + 1) (hps : ps = qs ++ [(l, .slice gva gl gvc)]) (hq : qs.length = qn) (qn5 : qn ≤ 5000) (hgl : l.gates.length = gl) (gl5 : gl ≤ 5000) (cg : wr.cell? ⟨vb, qn * 2 + 1, none⟩ = some (.slice gva gl gvc)) (fg : wr.frozen? ⟨vb, qn * 2 + 1, none⟩ = false) (hap : (Value.slice gva gl gvc).ownBlock ≠ some vb) (hgo : wr.ownsRow (cb + 1) 46 3 (.slice gva gl gvc) gl (gcells l.gates)) (hvb1 : cb + 1 ≤ vb) (hvb2 : vb < wr.heap.size) (hy : okb = true → Y ⟨c.log, gateTo c.layers ⟨false, x, y⟩⟩) (hno : okb = false → NO)
    (hQ : ∀ (u14 u85 u86 u87 u88 u89 u90 u91 u92 u93 u94 u95 u96 u97 u98 u99 u100 u101 u102 u103 u104 u105 u106 u107 u108 u109 u110 u111 u112 u113 u114 u115 u116 u117 u118 u119 u120 u121 u122 u123 u124 u125 u126 u127 u128 u129 u130 u131 u132 u133 u134 u135 u136 u137 u138 u139 u140 u141 u142 u143 u144 u145 u146 u147 u148 u149 u150 u151 u152 u153 u154 u155 u156 u157 u158 u159 u160 u161 u162 u163 u164 u165 u166 u167 u168 u169 u170 : Value) (okf : Bool) (c' : CQ) (v' : Value) (ps' : List (LQ × Value)) (w7 : World), PS cb w7 cb (cb + 1) c' v' ps' → Below cb W0 w7 → (okf = true → Y c') → (okf = false → NO) → Q .normal ⟨#[c0, c1, c2, c3, c4, c5, c6, .pointer (some ⟨cb, 0, none⟩), .int .i64 (t : Int), .slice (some ⟨wb, 0, none⟩) (k + 1) wcp, .slice na k nc, .bool okf, c12, .int .i64 (pk : Int), u14, c15, c16, c17, c18, c19, c20, c21, c22, c23, c24, c25, c26, c27, c28, c29, c30, c31, c32, c33, c34, c35, c36, c37, c38, c39, c40, c41, c42, c43, c44, c45, c46, c47, c48, c49, c50, c51, c52, c53, c54, c55, c56, c57, c58, c59, c60, c61, c62, c63, c64, c65, c66, c67, c68, c69, c70, c71, c72, c73, c74, c75, c76, c77, c78, c79, c80, c81, c82, c83, c84, u85, u86, u87, u88, u89, u90, u91, u92, u93, u94, u95, u96, u97, u98, u99, u100, u101, u102, u103, u104, u105, u106, u107, u108, u109, u110, u111, u112, u113, u114, u115, u116, u117, u118, u119, u120, u121, u122, u123, u124, u125, u126, u127, u128, u129, u130, u131, u132, u133, u134, u135, u136, u137, u138, u139, u140, u141, u142, u143, u144, u145, u146, u147, u148, u149, u150, u151, u152, u153, u154, u155, u156, u157, u158, u159, u160, u161, u162, u163, u164, u165, u166, u167, u168, u169, u170, c171, c172, c173, c174, c175, c176, c177, c178, c179, c180, c181, c182], []⟩ w7) :
    Code.wp Tryd.prog swCode Q ⟨#[c0, c1, c2, c3, c4, c5, c6, .pointer (some ⟨cb, 0, none⟩), .int .i64 (t : Int), .slice (some ⟨wb, 0, none⟩) (k + 1) wcp, .slice na k nc, .bool okb, c12, .int .i64 (pk : Int), c14, c15, c16, c17, c18, c19, c20, c21, c22, c23, c24, c25, c26, c27, c28, c29, c30, c31, c32, c33, c34, c35, c36, c37, c38, c39, c40, c41, c42, c43, c44, c45, c46, c47, c48, c49, c50, c51, c52, c53, c54, c55, c56, c57, c58, c59, c60, c61, c62, c63, c64, c65, c66, c67, c68, c69, c70, c71, c72, c73, c74, c75, c76, c77, c78, c79, c80, c81, c82, c83, c84, c85, c86, c87, c88, c89, c90, c91, c92, c93, c94, c95, c96, c97, c98, c99, c100, c101, c102, c103, c104, c105, c106, c107, c108, c109, c110, c111, c112, c113, c114, c115, c116, c117, c118, c119, c120, c121, c122, c123, c124, c125, c126, c127, c128, c129, c130, c131, c132, c133, c134, c135, c136, c137, c138, c139, c140, c141, c142, c143, c144, c145, c146, c147, c148, c149, c150, c151, c152, c153, c154, c155, c156, c157, c158, c159, c160, c161, c162, c163, c164, c165, c166, c167, c168, c169, c170, c171, c172, c173, c174, c175, c176, c177, c178, c179, c180, c181, c182], []⟩ wr := by
  conv => arg 2; whnf
  subst hk
  subst hna
  subst hv
  subst hpq
  have b1 := hPW.box1
  have HPW := hid hPW
  have HBLW := hid hBW
  have HPS := hid hps
  have HQN := hid hq
  have HGL := hid hgl
  have HAP := hid hap
  have HGO := hid hgo
  have HY := hid hy
  have HNO := hid hno
  have HQ := hid hQ
  have e1 : (0 : Int) < ((qn + 1 : Nat) : Int) := by omega
  have e2 : ((2 : Nat) : Int) = 2 := rfl
  have qn0 : (0 : Int) ≤ (qn : Int) := by omega
  have qn1 : (qn : Int) < (qn : Int) + 1 := by omega
  have wq : IntKind.i64.wrap (qn : Int) = (qn : Int) := IntWalk.i64_in _ (by omega)
  clear hPW hBW hQ hy hno hps hq hgl hap hgo
  go_upto_region 27 with fail
  refine gate_region HPW.out HBLW.out HPS.out HQN.out HGL.out gl5 cg fg HAP.out HGO.out hvb1 hvb2 cn cm cP s4 ?_
  intro _ _ _ _ _ _ _ _ _ _ _ _ _ _ _ _ _ _ _ _ w7 hP7 hB7
  obtain ⟨v', ps', hP7⟩ := hP7
  exact HQ.out _ _ _ _ _ _ _ _ _ _ _ _ _ _ _ _ _ _ _ _ _ _ _ _ _ _ _ _ _ _ _ _ _ _ _ _ _ _ _ _ _ _ _ _ _ _ _ _ _ _ _ _ _ _ _ _ _ _ _ _ _ _ _ _ _ _ _ _ _ _ _ _ _ _ _ _ _ _ _ _ _ _ _ _ _ _ _ okb _ _ _ _ hP7 hB7 HY.out HNO.out

end Go.Proofs.YtnnnlalhhhhaeaaDoor
