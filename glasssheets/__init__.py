"""Sheets: panes' blanks, and layouts of them on sheets of glass, parted by cuts from edge to edge."""
