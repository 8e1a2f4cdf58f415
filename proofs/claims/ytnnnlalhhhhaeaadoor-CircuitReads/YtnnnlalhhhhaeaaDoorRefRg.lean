/-
  What the switch of tallyref's ReadCircuit does, by itself: its ways, each over whatever the frame holds; and its place in the function's text.
-/
import Derived.Test.YtnnnlalhhhhaeaaDoorRefPc
import Derived.Test.YtnnnlalhhhhaeaaDoorCircS2
import Derived.Deep.RegionHeld3
namespace Go.Proofs.YtnnnlalhhhhaeaaDoor
open Go.RowKit Go.PlainAid
set_option linter.unusedVariables false
attribute [local go_sem ↓] Go.wp_at_zero Go.wp_at_succ

/-- Parts of a function's text. -/
def lnL : Code → Code
  | .seq a _ => a
  | c => c
def lnR : Code → Code
  | .seq _ b => b
  | c => c
def lnB : Code → Code
  | .block _ c => c
  | c => c
def lnP : Code → Code
  | .loop c => c
  | c => c
def lnT : Code → Code
  | .cond _ a _ => a
  | c => c
def lnF : Code → Code
  | .cond _ _ b => b
  | c => c
/-- The switch, and in it the region that appends a gate. -/
noncomputable def swCode : Code := lnL (lnR (lnR (lnR (lnR (lnR (lnB (lnL (lnR (lnP (lnB (lnR (lnL (lnR (lnR (lnR (lnR (lnR (lnR (Tryd.f6.body.getD .skip)))))))))))))))))))
noncomputable def gateCode : Code := lnR (lnT (lnR (lnF (lnR (lnF (lnR (lnB swCode)))))))

set_option maxHeartbeats 20000000 in
set_option maxRecDepth 1000000 in
theorem gate_region {cb vb qn wb nb wcp nc gl gvc vc : Nat} {gva : Option Addr} {W0 wr : World} {c : CQ} {ps qs : List (LQ × Value)} {l : LQ} {x y : Int} {P0 : ByteArray} {mb : Bool} {Q : Exit → Act → World → Prop} {c0 c1 c2 c3 c4 c5 c6 c7 c8 c11 c12 c13 c15 c16 c17 c18 c19 c20 c21 c22 c23 c24 c25 c26 c27 c28 c29 c30 c31 c32 c33 c34 c35 c36 c37 c38 c39 c40 c41 c42 c43 c44 c45 c46 c47 c48 c49 c50 c51 c52 c53 c54 c55 c56 c57 c58 c59 c60 c61 c62 c63 c64 c65 c66 c67 c68 c69 c70 c71 c72 c73 c74 c75 c76 c77 c78 c79 c80 c81 c82 c83 c84 c85 c86 c87 c88 c89 c90 c91 c92 c93 c94 c95 c96 c97 c98 c99 c100 c101 c102 c103 c104 c105 c106 c107 c108 c109 c110 c111 c112 c113 c114 c115 c116 c117 c118 c119 c120 c121 c122 c123 c124 c125 c126 c127 c128 c129 c130 c131 c132 c133 c134 c135 c136 c137 c138 c139 c140 c141 c142 c143 c144 c145 c146 c147 c148 c149 c150 c151 c152 c153 c154 c155 c156 c157 c158 c159 c160 c161 c162 c163 c164 c165 c166 c167 c168 c169 c170 c171 c172 c173 c174 c175 c176 c177 c178 c179 c180 c181 c182 : Value}
    (hPW : PS cb wr cb (cb + 1) c (.slice (some ⟨vb, 0, none⟩) (qn + 1) vc) ps) (hBW : Below cb W0 wr) (hps : ps = qs ++ [(l, .slice gva gl gvc)]) (hq : qs.length = qn) (hgl : l.gates.length = gl) (gl5 : gl ≤ 5000)
    (cg : wr.cell? ⟨vb, qn * 2 + 1, none⟩ = some (.slice gva gl gvc)) (fg : wr.frozen? ⟨vb, qn * 2 + 1, none⟩ = false) (hap : (Value.slice gva gl gvc).ownBlock ≠ some vb) (hgo : wr.ownsRow (cb + 1) 46 3 (.slice gva gl gvc) gl (gcells l.gates))
    (hvb1 : cb + 1 ≤ vb) (hvb2 : vb < wr.heap.size) (cn : wr.cell? ⟨nb, 0, none⟩ = some (.int .i64 x)) (cm : wr.cell? ⟨nb, 1, none⟩ = some (.int .i64 y)) (cP : wr.cell? ⟨wb, 0, none⟩ = some (.string P0)) (s4 : (P0.toList == [109, 117, 108]) = mb)
    (hQ : ∀ (u151 u152 u153 u154 u155 u156 u157 u158 u159 u160 u161 u162 u163 u164 u165 u166 u167 u168 u169 u170 : Value) (w7 : World), (∃ v' ps', PS cb w7 cb (cb + 1) ⟨c.log, gateTo c.layers ⟨mb, x, y⟩⟩ v' ps') → Below cb W0 w7 → Q .normal ⟨#[c0, c1, c2, c3, c4, c5, c6, c7, c8, .slice (some ⟨wb, 0, none⟩) (2 + 1) wcp, .slice (some ⟨nb, 0, none⟩) 2 nc, c11, c12, c13, .pointer (some ⟨vb, qn * 2, none⟩), c15, c16, c17, c18, c19, c20, c21, c22, c23, c24, c25, c26, c27, c28, c29, c30, c31, c32, c33, c34, c35, c36, c37, c38, c39, c40, c41, c42, c43, c44, c45, c46, c47, c48, c49, c50, c51, c52, c53, c54, c55, c56, c57, c58, c59, c60, c61, c62, c63, c64, c65, c66, c67, c68, c69, c70, c71, c72, c73, c74, c75, c76, c77, c78, c79, c80, c81, c82, c83, c84, c85, c86, c87, c88, c89, c90, c91, c92, c93, c94, c95, c96, c97, c98, c99, c100, c101, c102, c103, c104, c105, c106, c107, c108, c109, c110, c111, c112, c113, c114, c115, c116, c117, c118, c119, c120, c121, c122, c123, c124, c125, c126, c127, c128, c129, c130, c131, c132, c133, c134, c135, c136, c137, c138, c139, c140, c141, c142, c143, c144, c145, c146, c147, c148, c149, c150, u151, u152, u153, u154, u155, u156, u157, u158, u159, u160, u161, u162, u163, u164, u165, u166, u167, u168, u169, u170, c171, c172, c173, c174, c175, c176, c177, c178, c179, c180, c181, c182], []⟩ w7) :
    Code.wp Tryd.prog gateCode Q ⟨#[c0, c1, c2, c3, c4, c5, c6, c7, c8, .slice (some ⟨wb, 0, none⟩) (2 + 1) wcp, .slice (some ⟨nb, 0, none⟩) 2 nc, c11, c12, c13, .pointer (some ⟨vb, qn * 2, none⟩), c15, c16, c17, c18, c19, c20, c21, c22, c23, c24, c25, c26, c27, c28, c29, c30, c31, c32, c33, c34, c35, c36, c37, c38, c39, c40, c41, c42, c43, c44, c45, c46, c47, c48, c49, c50, c51, c52, c53, c54, c55, c56, c57, c58, c59, c60, c61, c62, c63, c64, c65, c66, c67, c68, c69, c70, c71, c72, c73, c74, c75, c76, c77, c78, c79, c80, c81, c82, c83, c84, c85, c86, c87, c88, c89, c90, c91, c92, c93, c94, c95, c96, c97, c98, c99, c100, c101, c102, c103, c104, c105, c106, c107, c108, c109, c110, c111, c112, c113, c114, c115, c116, c117, c118, c119, c120, c121, c122, c123, c124, c125, c126, c127, c128, c129, c130, c131, c132, c133, c134, c135, c136, c137, c138, c139, c140, c141, c142, c143, c144, c145, c146, c147, c148, c149, c150, c151, c152, c153, c154, c155, c156, c157, c158, c159, c160, c161, c162, c163, c164, c165, c166, c167, c168, c169, c170, c171, c172, c173, c174, c175, c176, c177, c178, c179, c180, c181, c182], []⟩ wr := by
  conv => arg 2; whnf
  refine wp_region_noPanic ?_
  have HGO := hid hgo
  have HAP := hid hap
  obtain ⟨ig, zg, hy1, hy2, hy3, hy4, hy5⟩ := infoG_parts
  have HY := hid (And.intro hy1 (And.intro hy2 (And.intro hy3 (And.intro hy4 hy5))))
  clear hy1 hy2 hy3 hy4 hy5
  have hle := hPW.le
  have hal := (Below.refl wr.heap.size wr).alloc (Nat.le_refl _) (.cells #[.bool mb, .int .i64 x, .int .i64 y] 46)
  have hPA := hPW.kept hal
  have hBA := hBW.trans (hal.mono (Nat.le_trans hPW.ge (Nat.le_of_lt (Nat.lt_of_lt_of_le hPW.lt hPW.le))))
  have hLO : ∀ k, (Value.slice gva gl gvc).ownBlock = some k → cb + 1 ≤ k := fun k hk => (hgo.lt k hk).1
  have HGT : Hid (∀ (g6 c6 : Nat) (w6 : World), w6.ownsRow (cb + 1) 46 3 (.slice (some ⟨g6, 0, none⟩) (gl + 1) c6) (gl + 1) (gcells l.gates ++ [.bool mb, .int .i64 x, .int .i64 y]) → (wr.alloc (.cells #[.bool mb, .int .i64 x, .int .i64 y] 46)).grownBy w6 (Value.slice gva gl gvc).ownBlock → ((Value.slice gva gl gvc).ownBlock = some g6 ∨ (wr.alloc (.cells #[.bool mb, .int .i64 x, .int .i64 y] 46)).heap.size ≤ g6) →
      (∃ v' ps', PS cb (w6.setCell ⟨vb, qn * 2 + 1, none⟩ (.slice (some ⟨g6, 0, none⟩) (gl + 1) c6)) cb (cb + 1) ⟨c.log, gateTo c.layers ⟨mb, x, y⟩⟩ v' ps') ∧ Below cb W0 (w6.setCell ⟨vb, qn * 2 + 1, none⟩ (.slice (some ⟨g6, 0, none⟩) (gl + 1) c6))) := hid (by
    intro g6 c6 w6 hown6 hgrow6 hat6
    have hown7 : w6.ownsRow (cb + 1) 46 3 (.slice (some ⟨g6, 0, none⟩) (l.gates.length + 1) c6) (l.gates.length + 1) (gcells l.gates ++ [.bool mb, .int .i64 x, .int .i64 y]) := by rw [hgl]; exact hown6
    have hPQ := hPA
    rw [hps] at hPQ
    rw [← hq] at hPQ
    have hP7 := PS.gate (x := ⟨mb, x, y⟩) hPQ hown7 hgrow6 hat6
    rw [hq, hgl, Nat.mul_comm 2 qn] at hP7
    exact ⟨⟨_, _, hP7⟩, (hBA.grown hgrow6 (by simp; have := hPW.ge; have := hPW.lt; omega) (fun k hk => Nat.le_trans (Nat.le_trans hPW.ge (Nat.le_of_lt hPW.lt)) (hLO k hk))).setCell (show cb ≤ (⟨vb, qn * 2 + 1, none⟩ : Addr).block from Nat.le_trans (Nat.le_of_lt hPW.lt) hvb1) (.slice (some ⟨g6, 0, none⟩) (gl + 1) c6)⟩)
  have HQ := hid hQ
  have cg' : ∀ o, (wr.alloc o).cell? ⟨vb, qn * 2 + 1, none⟩ = some (.slice gva gl gvc) := fun o => by rw [World.cell?_alloc_old _ _ _ (Nat.ne_of_lt hvb2)]; exact cg
  have fg' : ∀ o, (wr.alloc o).frozen? ⟨vb, qn * 2 + 1, none⟩ = false := fun o => by rw [World.frozen?_alloc_old _ _ _ (Nat.ne_of_lt hvb2)]; exact fg
  clear hQ hgo hap hal hPA hBA hLO hPW hBW hps hq hgl
  go_region_law (refine step_append_lies _ rfl (.tmp 155) (.tmp 167) 41 rfl (cb + 1) 46 ig zg 3 24 Tryd.underlying41 HY.out.1 HY.out.2.1 HY.out.2.2.1 HY.out.2.2.2.1 HY.out.2.2.2.2 (by decide) (.slice gva gl gvc) gl (gcells l.gates) (by simp [Act.eval]) (World.ownsRow.alloc HGO.out _) ⟨wr.heap.size, 0, none⟩ 1 1 [.bool mb, .int .i64 x, .int .i64 y] (by simp [Act.eval]) rfl (news_all wr [.bool mb, .int .i64 x, .int .i64 y] _) (one_gate mb x y) (by omega) (by unfold maxLen; omega) (by omega) (by simp; omega) (wr.heap.size + 1) (by simp) ?_; intro g6 c6 w6 hown6 hgrow6 hat6 hlt6; have he6 : w6.heap[vb]? = (wr.alloc (.cells #[.bool mb, .int .i64 x, .int .i64 y] 46)).heap[vb]? := (grown_dry hgrow6).block vb (by simp; omega) (fun e => HAP.out e.symm); have p1 : w6.cell? ⟨vb, qn * 2 + 1, none⟩ = some (.slice gva gl gvc) := (World.cell?_of_block he6).trans (cg' _); have p2 : w6.frozen? ⟨vb, qn * 2 + 1, none⟩ = false := (World.frozen?_of_block he6).trans (fg' _); clear he6)
  all_goals
    have hfin := HGT.out g6 c6 w6 hown6 (grown_dry hgrow6) (by rcases hat6 with e | e; exact .inl e; exact .inr (by rw [e]; simp))
    exact HQ.out _ _ _ _ _ _ _ _ _ _ _ _ _ _ _ _ _ _ _ _ _ hfin.1 hfin.2

end Go.Proofs.YtnnnlalhhhhaeaaDoor
