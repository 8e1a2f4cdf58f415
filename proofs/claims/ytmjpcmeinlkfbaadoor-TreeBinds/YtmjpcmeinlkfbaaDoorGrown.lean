/-
  Plain: what Pair makes of 5 and 0, of 6 and 0, and of these two: it is not 0.
-/
import Derived.Test.YtmjpcmeinlkfbaaDoorSpg3
import Derived.Test.YtmjpcmeinlkfbaaDoorTree
namespace Go.Proofs.YtmjpcmeinlkfbaaDoor
open Go.RowKit
set_option linter.unusedVariables false

theorem lit_start {g : Nat → K} {a b c : K} (h : ∀ k, k < 3 → g k = v3 a b c k) : ∀ k, k < 3 → mixK g 0 k = v3 a b c k := h
theorem lit_add {g : Nat → K} {a b c x a' : K} (h : ∀ k, k < 3 → g k = v3 a b c k) (e : a + x = a') : ∀ k, k < 3 → addK g x k = v3 a' b c k := by
  intro k hk
  unfold addK
  by_cases h0 : k = 0
  · subst h0; rw [if_pos rfl, h 0 (by omega), ← e]; rfl
  · rw [if_neg h0, h k hk]; unfold v3; rw [if_neg h0, if_neg h0]
theorem lit_new7 {g : Nat → K} (h : ∀ k, k < 3 → g k = v3 0 1 7 k) : ∀ k, k < 3 → mixed g k = v3 62758387353946348 569123209983440505 757342836358214596 k := by
  have h0 := lit_start h
  have h1 := v3_step (a' := 100000000129140165) (b' := 100000000258280327) (c' := 200000000129140164) h0 (by decide +kernel)
  have h2 := v3_step (a' := 1933116626638896968) (b' := 422235717617547738) (c' := 1037398480579982621) h1 (by decide +kernel)
  have h3 := v3_step (a' := 2204201052170483967) (b' := 2080443640841928856) (c' := 191229463132658375) h2 (by decide +kernel)
  have h4 := v3_step (a' := 1348811227789931938) (b' := 1713483019194981009) (c' := 1561388738522559880) h3 (by decide +kernel)
  have h5 := v3_step (a' := 1490266446289456581) (b' := 630357397653143713) (c' := 1849153611422144358) h4 (by decide +kernel)
  have h6 := v3_step (a' := 1459847232268078219) (b' := 1788075618824977308) (c' := 1990675415434901945) h5 (by decide +kernel)
  have h7 := v3_step (a' := 1248630320422169500) (b' := 1084151251136009257) (c' := 864819255619586124) h6 (by decide +kernel)
  have h8 := v3_step (a' := 62758387353946348) (b' := 569123209983440505) (c' := 757342836358214596) h7 (by decide +kernel)
  exact h8
theorem lit_seven : ∀ k, k < 3 → newK 7 k = v3 0 1 7 k := fun k hk => by
  match k, hk with
  | 0, _ => rfl
  | 1, _ => rfl
  | 2, _ => rfl
theorem lit_two {g : Nat → K} (h : ∀ k, k < 3 → g k = v3 62758387353946350 569123209983440505 757342836358214596 k) : ∀ k, k < 3 → mixed g k = v3 328593456302022957 1962574190855570933 1156421344546151733 k := by
  have h0 := lit_start h
  have h1 := v3_step (a' := 887474297270816228) (b' := 2072807823150755169) (c' := 1152313788599869760) h0 (by decide +kernel)
  have h2 := v3_step (a' := 541533027200728462) (b' := 2262420651506366186) (c' := 918582504502035738) h1 (by decide +kernel)
  have h3 := v3_step (a' := 1232290966448952161) (b' := 1689484824770486373) (c' := 567371617381373794) h2 (by decide +kernel)
  have h4 := v3_step (a' := 858510689867062093) (b' := 216029030412480777) (c' := 578650177271914122) h3 (by decide +kernel)
  have h5 := v3_step (a' := 1649119657888719472) (b' := 1547048714621148062) (c' := 947713951380586088) h4 (by decide +kernel)
  have h6 := v3_step (a' := 965891884974723292) (b' := 2112798439664589308) (c' := 1690118086266726846) h5 (by decide +kernel)
  have h7 := v3_step (a' := 324009184158873153) (b' := 270579996188965619) (c' := 50983791034143348) h6 (by decide +kernel)
  have h8 := v3_step (a' := 328593456302022957) (b' := 1962574190855570933) (c' := 1156421344546151733) h7 (by decide +kernel)
  exact h8
theorem lit_fivea {g : Nat → K} (h : ∀ k, k < 3 → g k = v3 328593456302022962 1962574190855570933 1156421344546151733 k) : ∀ k, k < 3 → mixed g k = v3 149156177635731033 2263257769488767417 522078242545871897 k := by
  have h0 := lit_start h
  have h1 := v3_step (a' := 2033848485386065370) (b' := 2077120438812299505) (c' := 408667192069989476) h0 (by decide +kernel)
  have h2 := v3_step (a' := 1771340522389586275) (b' := 1697539028293939310) (c' := 2010359200250240833) h1 (by decide +kernel)
  have h3 := v3_step (a' := 2180355119194981958) (b' := 198787927248596993) (c' := 924131326972078807) h2 (by decide +kernel)
  have h4 := v3_step (a' := 1547142638607393232) (b' := 1140423667686157059) (c' := 1963872034510017353) h3 (by decide +kernel)
  have h5 := v3_step (a' := 1584023335899286693) (b' := 1375964060437640277) (c' := 2295800566883503609) h4 (by decide +kernel)
  have h6 := v3_step (a' := 1913557725631008746) (b' := 1043861081636079685) (c' := 634665692368866206) h5 (by decide +kernel)
  have h7 := v3_step (a' := 744555334992134029) (b' := 1226163967874266904) (c' := 2076009866748846165) h6 (by decide +kernel)
  have h8 := v3_step (a' := 149156177635731033) (b' := 2263257769488767417) (c' := 522078242545871897) h7 (by decide +kernel)
  exact h8
theorem lit_fiveb {g : Nat → K} (h : ∀ k, k < 3 → g k = v3 149156177635731033 2263257769488767417 522078242545871897 k) : ∀ k, k < 3 → mixed g k = v3 1977591467521263820 1241750318567840952 964283460670257335 k := by
  have h0 := lit_start h
  have h1 := v3_step (a' := 1440976267076978127) (b' := 1620239440248967680) (c' := 532934068791313194) h0 (by decide +kernel)
  have h2 := v3_step (a' := 757845879727454368) (b' := 645989932325708515) (c' := 2134891358110669121) h1 (by decide +kernel)
  have h3 := v3_step (a' := 11020483108960130) (b' := 1633718012849003560) (c' := 423430331585786015) h2 (by decide +kernel)
  have h4 := v3_step (a' := 2272885933660975164) (b' := 2152915970777018829) (c' := 1979410565904972744) h3 (by decide +kernel)
  have h5 := v3_step (a' := 2054202174935462427) (b' := 1666409161678595013) (c' := 1880376470880231743) h4 (by decide +kernel)
  have h6 := v3_step (a' := 940706838601285938) (b' := 1701951456234000147) (c' := 1804231984696929267) h5 (by decide +kernel)
  have h7 := v3_step (a' := 1402443323127704981) (b' := 1223702202414371942) (c' := 372312581307233514) h6 (by decide +kernel)
  have h8 := v3_step (a' := 1977591467521263820) (b' := 1241750318567840952) (c' := 964283460670257335) h7 (by decide +kernel)
  exact h8
theorem pair_five : prQ 5 0 = 1241750318567840952 := by
  have h1 := lit_two (lit_add (a' := 62758387353946350) (lit_new7 lit_seven) (x := kn 2) (by decide +kernel))
  have h2 := lit_fivea (lit_add (a' := 328593456302022962) h1 (x := kk 5) (by decide +kernel))
  have h3 := lit_fiveb (lit_add (a' := 149156177635731033) h2 (x := kk 0) (by decide +kernel))
  unfold prQ pairK
  have e := h3 1 (by omega)
  refine (congrArg ofK e).trans ?_
  decide +kernel
theorem lit_sixa {g : Nat → K} (h : ∀ k, k < 3 → g k = v3 328593456302022963 1962574190855570933 1156421344546151733 k) : ∀ k, k < 3 → mixed g k = v3 551502297919925844 1366025439860158139 755428203791242912 k := by
  have h0 := lit_start h
  have h1 := v3_step (a' := 1286264589940218987) (b' := 550406986482529338) (c' := 1187796748953913260) h0 (by decide +kernel)
  have h2 := v3_step (a' := 727286733288330314) (b' := 1375410338255308713) (c' := 1057364481253086156) h1 (by decide +kernel)
  have h3 := v3_step (a' := 786703689731966596) (b' := 723296994427389172) (c' := 867265207053544205) h2 (by decide +kernel)
  have h4 := v3_step (a' := 874256074355009974) (b' := 1129643282209902062) (c' := 1797675308715156623) h3 (by decide +kernel)
  have h5 := v3_step (a' := 2201169667155858475) (b' := 1981981792800047846) (c' := 1636469130702360263) h4 (by decide +kernel)
  have h6 := v3_step (a' := 9720611264416277) (b' := 1425918058461193429) (c' := 2146237453990244552) h5 (by decide +kernel)
  have h7 := v3_step (a' := 661848276792901616) (b' := 1424143942617617391) (c' := 2064762207745536700) h6 (by decide +kernel)
  have h8 := v3_step (a' := 551502297919925844) (b' := 1366025439860158139) (c' := 755428203791242912) h7 (by decide +kernel)
  exact h8
theorem lit_sixb {g : Nat → K} (h : ∀ k, k < 3 → g k = v3 551502297919925844 1366025439860158139 755428203791242912 k) : ∀ k, k < 3 → mixed g k = v3 550273983747720390 238733600582287092 874878712951336435 k := by
  have h0 := lit_start h
  have h1 := v3_step (a' := 2130548966000719538) (b' := 642694914794518812) (c' := 909931777969669281) h0 (by decide +kernel)
  have h2 := v3_step (a' := 127529065519899443) (b' := 84005395039407551) (c' := 1978256681742979167) h1 (by decide +kernel)
  have h3 := v3_step (a' := 1461007682511079031) (b' := 477883011686964190) (c' := 805811990444928732) h2 (by decide +kernel)
  have h4 := v3_step (a' := 605583536951695114) (b' := 34846523390849365) (c' := 2272714712482355941) h3 (by decide +kernel)
  have h5 := v3_step (a' := 1753019112748856893) (b' := 846670133517204315) (c' := 865648690668126657) h4 (by decide +kernel)
  have h6 := v3_step (a' := 1336105573359653022) (b' := 495934386808173116) (c' := 1521772282707308290) h5 (by decide +kernel)
  have h7 := v3_step (a' := 1077580023281660020) (b' := 1036587005578422044) (c' := 240848808123344605) h6 (by decide +kernel)
  have h8 := v3_step (a' := 550273983747720390) (b' := 238733600582287092) (c' := 874878712951336435) h7 (by decide +kernel)
  exact h8
theorem pair_six : prQ 6 0 = 238733600582287092 := by
  have h1 := lit_two (lit_add (a' := 62758387353946350) (lit_new7 lit_seven) (x := kn 2) (by decide +kernel))
  have h2 := lit_sixa (lit_add (a' := 328593456302022963) h1 (x := kk 6) (by decide +kernel))
  have h3 := lit_sixb (lit_add (a' := 551502297919925844) h2 (x := kk 0) (by decide +kernel))
  unfold prQ pairK
  have e := h3 1 (by omega)
  refine (congrArg ofK e).trans ?_
  decide +kernel
theorem lit_botha {g : Nat → K} (h : ∀ k, k < 3 → g k = v3 1570343774869863909 1962574190855570933 1156421344546151733 k) : ∀ k, k < 3 → mixed g k = v3 1705044911498777577 800210336938148496 2193009096976534238 k := by
  have h0 := lit_start h
  have h1 := v3_step (a' := 1122134871205828739) (b' := 468342127115334214) (c' := 1105731889586718136) h0 (by decide +kernel)
  have h2 := v3_step (a' := 1649227088084409493) (b' := 2183846941096041411) (c' := 1898740637321732768) h1 (by decide +kernel)
  have h3 := v3_step (a' := 584587671630980222) (b' := 1485778940004199269) (c' := 250390682307910682) h2 (by decide +kernel)
  have h4 := v3_step (a' := 880334633502632817) (b' := 1849000632566800300) (c' := 1080958607031090153) h3 (by decide +kernel)
  have h5 := v3_step (a' := 701372300387546686) (b' := 822228911010047981) (c' := 1035935624824619) h4 (by decide +kernel)
  have h6 := v3_step (a' := 330540156838304860) (b' := 1422180530973550560) (c' := 1822448783882067558) h5 (by decide +kernel)
  have h7 := v3_step (a' := 2046056746459364311) (b' := 385775142884136244) (c' := 2185037508645268831) h6 (by decide +kernel)
  have h8 := v3_step (a' := 1705044911498777577) (b' := 800210336938148496) (c' := 2193009096976534238) h7 (by decide +kernel)
  exact h8
theorem lit_bothb {g : Nat → K} (h : ∀ k, k < 3 → g k = v3 1943778512081064669 800210336938148496 2193009096976534238 k) : ∀ k, k < 3 → mixed g k = v3 1543980629580696697 332340211178738506 93821392463880255 k := by
  have h0 := lit_start h
  have h1 := v3_step (a' := 1797583632794041371) (b' := 1561209433793764165) (c' := 1615917054286783104) h0 (by decide +kernel)
  have h2 := v3_step (a' := 1646321047888573010) (b' := 907265878416835826) (c' := 406411673702212767) h1 (by decide +kernel)
  have h3 := v3_step (a' := 1346918750399302992) (b' := 354741722689924205) (c' := 1665272149103550320) h2 (by decide +kernel)
  have h4 := v3_step (a' := 812458188183997631) (b' := 1162815143772752031) (c' := 2055798300527873056) h3 (by decide +kernel)
  have h5 := v3_step (a' := 750088853106390867) (b' := 124206141281640284) (c' := 709980950491455325) h4 (by decide +kernel)
  have h6 := v3_step (a' := 155261964400517833) (b' := 1841002734368548421) (c' := 1137376408752173120) h5 (by decide +kernel)
  have h7 := v3_step (a' := 164560705878949146) (b' := 1578798298372581396) (c' := 754049871911991841) h6 (by decide +kernel)
  have h8 := v3_step (a' := 1543980629580696697) (b' := 332340211178738506) (c' := 93821392463880255) h7 (by decide +kernel)
  exact h8
theorem pair_both : prQ 1241750318567840952 238733600582287092 = 332340211178738506 := by
  have h1 := lit_two (lit_add (a' := 62758387353946350) (lit_new7 lit_seven) (x := kn 2) (by decide +kernel))
  have h2 := lit_botha (lit_add (a' := 1570343774869863909) h1 (x := kk 1241750318567840952) (by decide +kernel))
  have h3 := lit_bothb (lit_add (a' := 1943778512081064669) h2 (x := kk 238733600582287092) (by decide +kernel))
  unfold prQ pairK
  have e := h3 1 (by omega)
  refine (congrArg ofK e).trans ?_
  decide +kernel
theorem grown_val : prQ (prQ 5 0) (prQ 6 0) = 332340211178738506 := by rw [pair_five, pair_six, pair_both]
theorem grown_ne : prQ (prQ 5 0) (prQ 6 0) ≠ 0 := by rw [grown_val]; decide

end Go.Proofs.YtmjpcmeinlkfbaaDoor
